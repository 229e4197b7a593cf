/-
  The law's own names and ups: what an iterator tells, as far as one goes.
-/
import Derived.Test.YthmiffjhchhljaaDoorRefSame
import Derived.Test.YthmiffjhchhljaaDoorPathUpsSeq
import Derived.OwnWalkIn
namespace Go.Proofs.YthmiffjhchhljaaDoor
open Go.RowKit Go.Shelf
set_option maxRecDepth 100000
attribute [local go_sem] Oper.semAt_some

/-- Between two rounds: how many are asked for, and what has come, in a row above X. -/
def OutIs (b X most : Nat) (cs : List ByteArray) (w W : World) : Prop :=
  W.heap[b]? = some (.cells #[.int .i64 most] 3 (0, 0)) ∧
  (∃ A c, Boxed W (b + 2) 23 (.slice A cs.length c) ∧ cs.length ≤ c ∧ W.ownsRow X 9 1 (.slice A cs.length c) cs.length (cs.map Value.string)) ∧ Below b w W
theorem OutIs.turn {b X most : Nat} {cs : List ByteArray} {w A B : World} {row : Option Nat} (h : OutIs b X most cs w A) (hg : A.grownBy B row) (hr : ∀ r, row = some r → b ≤ r ∧ r < X ∧ r ≠ b ∧ r ≠ b + 2) : OutIs b X most cs w B := by
  obtain ⟨h1, ⟨P, c, h2, h3, h4⟩, h5⟩ := h
  refine ⟨(hg.block _ (Array.getElem?_eq_some_iff.1 h1).1 (fun e => (hr b e.symm).2.2.1 rfl)).trans h1, ⟨P, c, h2.kept hg (fun e => (hr _ e.symm).2.2.2 rfl), h3, h4.kept hg ?_⟩, ?_⟩
  · by_cases h0 : (Value.slice P cs.length c).ownBlock = none
    · exact .inl h0
    · right
      intro e
      obtain ⟨r, hr'⟩ : ∃ r, (Value.slice P cs.length c).ownBlock = some r := by
        cases h : (Value.slice P cs.length c).ownBlock with
        | none => exact absurd h h0
        | some r => exact ⟨r, rfl⟩
      have := (h4.lt r hr').1
      have := (hr r (by rw [← e, hr'])).2.1
      omega
  · have hs : b ≤ A.heap.size := by have := (Array.getElem?_eq_some_iff.1 h1).1; omega
    exact h5.grown hg hs (fun r e => (hr r e).1)

set_option maxHeartbeats 2000000 in
theorem lawUps_in (p : ByteArray) (most : Nat) (w : World) (hp : (p.size : Int) ≤ 1000000) (hm : (most : Int) ≤ 1000000) :
    CallsIn Fence.wide 6 Tryd.prog 15 #[.string p, .int .i64 most] w fun e w' =>
      ∃ A c, ∃ cs : List ByteArray, e = .returned (.tuple #[.slice A cs.length c, .bool true]) ∧ cs.map toL = (upsL (toL p)).take most ∧ cs.length ≤ c ∧ Rd w' w'.heap.size A cs ∧ Below w.heap.size w w' := by
  obtain ⟨i0, hi, hz0, hz1, hz2⟩ := info_parts info_string
  refine callsIn_of_wp_marks Tryd.func15 rfl trivial ?_ rfl
  simp only [Tryd.ntmps15, List.size_toArray, List.length_cons, List.length_nil, Nat.reduceAdd, Nat.reduceSub, Array.replicate_succ, Array.replicate_zero, List.push_toArray, List.append_toArray, List.nil_append, List.cons_append]
  gi_wp2_with fail
  refine ⟨trivial, (callsIn_wide.2 (ups_any p _)).mono ?_⟩
  rintro e w1 ⟨rfl, hw1⟩
  have hz1' : w1.heap.size = w.heap.size + 2 := by rw [hw1]; simp
  have hB1 : Below w.heap.size w w1 := by rw [hw1]; exact ((Below.refl _ w).alloc (Nat.le_refl _) _).alloc (by simp) _
  have r0 : w1.heap[w.heap.size]? = some (.cells #[.int .i64 most] 3 (0, 0)) := by
    rw [hw1, Below.heap_alloc _ _ _ (by simp)]
    exact World.alloc_heap_new _ _
  have r1 : w1.heap[w.heap.size + 1]? = some (.cells #[.string p] 9 (0, 0)) := by
    rw [hw1]
    have h := World.alloc_heap_new (w.alloc (.cells #[.int .i64 most] 3)) (Obj.cells #[.string p] 9)
    simp only [World.size_alloc] at h
    exact h
  have e2 : (w.alloc (Obj.cells #[Value.int IntKind.i64 most] 3)).heap.size = w.heap.size + 1 := by simp
  rw [e2]
  clear hw1
  have hrun : ∀ w : World, Sem.run Tryd.prog (binOp BinOp.eql 64 (.func (.func 77) #[] #[.pointer (some ⟨w1.heap.size - 1, 0, none⟩)]) .nilFunc) w = .ok (.bool false) w := fun w => by kernel_rfl
  rw [show w1.heap.size - 1 = w.heap.size + 1 by omega] at hrun
  gi_wp2_with fail
  clear hrun
  obtain ⟨w2, hw2⟩ : ∃ w2, w2 = w1.alloc (.cells #[.slice none 0 0] 23) := ⟨_, rfl⟩
  have q0 : w2.heap[w.heap.size]? = some (.cells #[.int .i64 most] 3 (0, 0)) := by rw [hw2, Below.heap_alloc _ _ _ (by omega)]; exact r0
  have q1 : w2.heap[w.heap.size + 1]? = some (.cells #[.string p] 9 (0, 0)) := by rw [hw2, Below.heap_alloc _ _ _ (by omega)]; exact r1
  have q2 : Boxed w2 (w.heap.size + 2) 23 (.slice none 0 0) := by rw [hw2, ← hz1']; exact Boxed.new _ _ _
  have q3 : w2.heap.size = w.heap.size + 3 := by rw [hw2]; simp; omega
  have hB2 : Below w.heap.size w w2 := by rw [hw2]; exact hB1.alloc hB1.size _
  rw [← hw2]
  clear hw2 r0 r1 hz1' hB1 e2
  refine wpIn_rangeT (α := ByteArray) rfl (by omega) (gf := 77) (lb := #[.pointer (some ⟨w.heap.size + 1, 0, none⟩)]) rfl trivial
    (enters_of Tryd.func77 (by kernel_rfl) rfl) (L := [w.heap.size + 1]) (by intro k hk; simp at hk; omega)
    (ups_seq 5 (w.heap.size + 1) p w2 (by omega) (by omega) q1) (fun _ => rfl)
    (fun X pre W => pre.length ≤ most ∧ OutIs w.heap.size X most pre w W)
    (fun X c pre W => c = .exit 0 ∧ ∃ cs, cs <+: pre ∧ cs.length = most ∧ OutIs w.heap.size X most cs w W)
    ?hI ?hIx (fun X hX => ⟨Nat.zero_le _, q0, ⟨none, 0, q2, by simp, World.ownsRow_nil _ _ _ _⟩, hB2⟩)
    (fun x => { tmps := #[.string p, .int .i64 most, undef, .pointer (some ⟨w.heap.size, 0, none⟩), .slice none 0 0, .bool false, .func (.func 77) #[] #[.pointer (some ⟨w.heap.size + 1, 0, none⟩)], .pointer (some ⟨w.heap.size + 2, 0, none⟩), .string x, .string p,
      .func (.func 77) #[] #[.pointer (some ⟨w.heap.size + 1, 0, none⟩)], .func (.func 77) #[] #[.pointer (some ⟨w.heap.size + 1, 0, none⟩)], .bool false, .func (.func 77) #[] #[.pointer (some ⟨w.heap.size + 1, 0, none⟩)], .string x,
      undef, undef, undef, undef, undef, undef, undef, undef, undef], defers := [] }) ?assign ?body ?done ?stop
  case hI =>
    rintro X hX pre A B row ⟨h1, h2⟩ hg hr
    refine ⟨h1, h2.turn hg (fun r e => ?_)⟩
    rcases hr r e with h | h
    · simp at h; omega
    · omega
  case hIx =>
    rintro X c hX pre A B row ⟨h1, cs, h2, h3, h4⟩ hg hr
    refine ⟨h1, cs, h2, h3, h4.turn hg (fun r e => ?_)⟩
    rcases hr r e with h | h
    · simp at h; omega
    · omega
  case assign =>
    intro l x W K hK
    gi_wp2
    simpa using hK
  case body =>
    rintro X l pre x W hX hXW ⟨h1, h2, ⟨A, c, h3, h4, h5⟩, h6⟩ hlen
    have c0 : W.cell? ⟨w.heap.size, 0, none⟩ = some (.int .i64 most) := cell_of_row _ _ _ _ _ _ h2
    have c2 := h3.cell
    have hb : (pre.length : Int) + 1 ≤ 16 := by
      have := hlen.length_le
      have h16 := namesL_len (toL p)
      rw [upsL_len] at this
      simp at this
      omega
    clear hlen q0 q1 q2
    by_cases hge : (most : Int) ≤ (pre.length : Int)
    · gi_wp2_with fail
      exact ⟨Lies.refl _ _, rfl, pre, List.prefix_append _ _, by omega, h2, ⟨A, c, h3, h4, h5⟩, h6⟩
    · gi_wp2_with (gi_at_builtin; refine wpListIn_append_own _ rfl _ _ 23 rfl X 9 i0 (.string ⟨#[]⟩) 1 16 Tryd.underlying23 hi hz0 hz1 hz2 rfl (by decide) _ _ _ rfl (h5.alloc _) ⟨W.heap.size, 0, none⟩ 1 1 [.string x] rfl rfl (cell_one_new _ _ _) (by simp [Value.oneCell']) (by unfold maxLen; omega) (by omega) (by simp; omega) ?_)
      intro v' w3 hown' hgrow hnil
      obtain ⟨g', cap', rfl⟩ := ownsRow_succ hown'
      have hv1 : Boxed w3 (w.heap.size + 2) 23 _ := (h3.alloc _).kept hgrow (h3.not_row (by decide) h5)
      have c3 := hv1.cell
      have z3 := hv1.frozen
      have hrow : ∀ r, (Value.slice A pre.length c).ownBlock = some r → X ≤ r := fun r e => (h5.lt r e).1
      have hr3 := hown'.kept (grownBy_setCell' w3 (w.heap.size + 2) (.slice (some ⟨g', 0, none⟩) (pre.length + 1) cap')) (.inr (hv1.not_row (by decide) hown').symm)
      have hW := h3.lt
      have hcap := ownsRow_cap hown'
      gi_wp2_with fail
      refine ⟨⟨?_, ?_⟩, by simp; omega, ?_, ⟨some ⟨g', 0, none⟩, cap', by simpa using hv1.set _, by simpa using hcap, by simpa using hr3⟩, ?_⟩
      · have := hgrow.size
        simp at this ⊢
        omega
      · intro k hk
        have hk2 : k ≠ w.heap.size + 2 ∧ k < X := by
          rcases hk with h | h
          · simp at h; omega
          · omega
        rw [Below.heap_setCell _ _ _ _ hk2.1, hgrow.block k (by simp; omega) (fun e => by have := hrow k e.symm; omega), Below.heap_alloc _ _ _ (by omega)]
      · rw [Below.heap_setCell _ _ _ _ (by simp), hgrow.block _ (by simp; omega) (fun e => by have := hrow _ e.symm; omega), Below.heap_alloc _ _ _ (by omega)]
        exact h2
      · exact ((h6.alloc h6.size _).grown hgrow (by have := h6.size; simp; omega) (fun r e => by have := hrow r e; omega)).setCell (by simp) _
  case done =>
    rintro X D xs W hX hD hDX hS ⟨h1, h2, ⟨A, c, h3, h4, h5⟩, h6⟩ hK
    have c2 := h3.cell
    have HS := hide (show xs.map toL = (upsL (toL p)).take most by rw [← hS, List.take_of_length_le (by simpa using h1)])
    clear hS q0 q1 q2
    gi_wp2_with fail
    refine ⟨by simp, .inl ⟨_, _, rfl, run_takeDeferred hK, ?_⟩⟩
    refine ⟨_, results_tmp2 rfl _ _ _, A, c, xs, rfl, HS.out, h4, Rd.own (h5.kept (grownBy_putObj' _ D (.deferred none)) (.inr (fun e => by have := (h5.lt D e).1; omega))), ?_⟩
    exact h6.grown (grownBy_putObj' _ D (.deferred none)) h6.size (fun r e => by cases e; omega)
  case stop =>
    rintro X D c pre W hX hD hDX hSp ⟨rfl, cs, h0, h1, h2, ⟨A, c, h3, h4, h5⟩, h6⟩ hK
    have c2 := h3.cell
    have HS := hide (show cs.map toL = (upsL (toL p)).take most by
      obtain ⟨t, ht⟩ := h0
      obtain ⟨t', ht'⟩ := hSp
      rw [← ht', ← ht, List.map_append, List.append_assoc, List.take_append_of_le_length (by simp; omega), List.take_of_length_le (by simp; omega)])
    clear hSp q0 q1 q2 h0 h1
    gi_wp2_with fail
    refine ⟨by simp, .inl ⟨_, _, rfl, run_takeDeferred hK, ?_⟩⟩
    refine ⟨_, results_tmp2 rfl _ _ _, A, c, cs, rfl, HS.out, h4, Rd.own (h5.kept (grownBy_putObj' _ D (.deferred none)) (.inr (fun e => by have := (h5.lt D e).1; omega))), ?_⟩
    exact h6.grown (grownBy_putObj' _ D (.deferred none)) h6.size (fun r e => by cases e; omega)
set_option maxHeartbeats 2000000 in
theorem lawNames_in (p : ByteArray) (most : Nat) (w : World) (hp : (p.size : Int) ≤ 1000000) (hm : (most : Int) ≤ 1000000) :
    CallsIn Fence.wide 6 Tryd.prog 14 #[.string p, .int .i64 most] w fun e w' =>
      ∃ A c, ∃ cs : List ByteArray, e = .returned (.tuple #[.slice A cs.length c, .bool true]) ∧ cs.map toL = (namesL (toL p)).take most ∧ cs.length ≤ c ∧ Rd w' w'.heap.size A cs ∧ Below w.heap.size w w' := by
  obtain ⟨i0, hi, hz0, hz1, hz2⟩ := info_parts info_string
  refine callsIn_of_wp_marks Tryd.func14 rfl trivial ?_ rfl
  simp only [Tryd.ntmps14, List.size_toArray, List.length_cons, List.length_nil, Nat.reduceAdd, Nat.reduceSub, Array.replicate_succ, Array.replicate_zero, List.push_toArray, List.append_toArray, List.nil_append, List.cons_append]
  gi_wp2_with fail
  refine ⟨trivial, (callsIn_wide.2 (names_any p _)).mono ?_⟩
  rintro e w1 ⟨rfl, hw1⟩
  have hz1' : w1.heap.size = w.heap.size + 2 := by rw [hw1]; simp
  have hB1 : Below w.heap.size w w1 := by rw [hw1]; exact ((Below.refl _ w).alloc (Nat.le_refl _) _).alloc (by simp) _
  have r0 : w1.heap[w.heap.size]? = some (.cells #[.int .i64 most] 3 (0, 0)) := by
    rw [hw1, Below.heap_alloc _ _ _ (by simp)]
    exact World.alloc_heap_new _ _
  have r1 : w1.heap[w.heap.size + 1]? = some (.cells #[.string p] 9 (0, 0)) := by
    rw [hw1]
    have h := World.alloc_heap_new (w.alloc (.cells #[.int .i64 most] 3)) (Obj.cells #[.string p] 9)
    simp only [World.size_alloc] at h
    exact h
  have e2 : (w.alloc (Obj.cells #[Value.int IntKind.i64 most] 3)).heap.size = w.heap.size + 1 := by simp
  rw [e2]
  clear hw1
  have hrun : ∀ w : World, Sem.run Tryd.prog (binOp BinOp.eql 64 (.func (.func 76) #[] #[.pointer (some ⟨w1.heap.size - 1, 0, none⟩)]) .nilFunc) w = .ok (.bool false) w := fun w => by kernel_rfl
  rw [show w1.heap.size - 1 = w.heap.size + 1 by omega] at hrun
  gi_wp2_with fail
  clear hrun
  obtain ⟨w2, hw2⟩ : ∃ w2, w2 = w1.alloc (.cells #[.slice none 0 0] 23) := ⟨_, rfl⟩
  have q0 : w2.heap[w.heap.size]? = some (.cells #[.int .i64 most] 3 (0, 0)) := by rw [hw2, Below.heap_alloc _ _ _ (by omega)]; exact r0
  have q1 : w2.heap[w.heap.size + 1]? = some (.cells #[.string p] 9 (0, 0)) := by rw [hw2, Below.heap_alloc _ _ _ (by omega)]; exact r1
  have q2 : Boxed w2 (w.heap.size + 2) 23 (.slice none 0 0) := by rw [hw2, ← hz1']; exact Boxed.new _ _ _
  have q3 : w2.heap.size = w.heap.size + 3 := by rw [hw2]; simp; omega
  have hB2 : Below w.heap.size w w2 := by rw [hw2]; exact hB1.alloc hB1.size _
  rw [← hw2]
  clear hw2 r0 r1 hz1' hB1 e2
  refine wpIn_rangeT (α := ByteArray) rfl (by omega) (gf := 76) (lb := #[.pointer (some ⟨w.heap.size + 1, 0, none⟩)]) rfl trivial
    (enters_of Tryd.func76 (by kernel_rfl) rfl) (L := []) (by intro k hk; simp at hk)
    (names_seq 5 (w.heap.size + 1) p w2 (by omega) (by omega) q1) (fun _ => rfl)
    (fun X pre W => pre.length ≤ most ∧ OutIs w.heap.size X most pre w W)
    (fun X c pre W => c = .exit 0 ∧ ∃ cs, cs <+: pre ∧ cs.length = most ∧ OutIs w.heap.size X most cs w W)
    ?hI ?hIx (fun X hX => ⟨Nat.zero_le _, q0, ⟨none, 0, q2, by simp, World.ownsRow_nil _ _ _ _⟩, hB2⟩)
    (fun x => { tmps := #[.string p, .int .i64 most, undef, .pointer (some ⟨w.heap.size, 0, none⟩), .slice none 0 0, .bool false, .func (.func 76) #[] #[.pointer (some ⟨w.heap.size + 1, 0, none⟩)], .pointer (some ⟨w.heap.size + 2, 0, none⟩), .string x, .string p,
      .func (.func 76) #[] #[.pointer (some ⟨w.heap.size + 1, 0, none⟩)], .func (.func 76) #[] #[.pointer (some ⟨w.heap.size + 1, 0, none⟩)], .bool false, .func (.func 76) #[] #[.pointer (some ⟨w.heap.size + 1, 0, none⟩)], .string x,
      undef, undef, undef, undef, undef, undef, undef, undef, undef], defers := [] }) ?assign ?body ?done ?stop
  case hI =>
    rintro X hX pre A B row ⟨h1, h2⟩ hg hr
    refine ⟨h1, h2.turn hg (fun r e => ?_)⟩
    rcases hr r e with h | h
    · simp at h
    · omega
  case hIx =>
    rintro X c hX pre A B row ⟨h1, cs, h2, h3, h4⟩ hg hr
    refine ⟨h1, cs, h2, h3, h4.turn hg (fun r e => ?_)⟩
    rcases hr r e with h | h
    · simp at h
    · omega
  case assign =>
    intro l x W K hK
    gi_wp2
    simpa using hK
  case body =>
    rintro X l pre x W hX hXW ⟨h1, h2, ⟨A, c, h3, h4, h5⟩, h6⟩ hlen
    have c0 : W.cell? ⟨w.heap.size, 0, none⟩ = some (.int .i64 most) := cell_of_row _ _ _ _ _ _ h2
    have c2 := h3.cell
    have hb : (pre.length : Int) + 1 ≤ 16 := by
      have := hlen.length_le
      have h16 := namesL_len (toL p)
      simp at this
      omega
    clear hlen q0 q1 q2
    by_cases hge : (most : Int) ≤ (pre.length : Int)
    · gi_wp2_with fail
      exact ⟨Lies.refl _ _, rfl, pre, List.prefix_append _ _, by omega, h2, ⟨A, c, h3, h4, h5⟩, h6⟩
    · gi_wp2_with (gi_at_builtin; refine wpListIn_append_own _ rfl _ _ 23 rfl X 9 i0 (.string ⟨#[]⟩) 1 16 Tryd.underlying23 hi hz0 hz1 hz2 rfl (by decide) _ _ _ rfl (h5.alloc _) ⟨W.heap.size, 0, none⟩ 1 1 [.string x] rfl rfl (cell_one_new _ _ _) (by simp [Value.oneCell']) (by unfold maxLen; omega) (by omega) (by simp; omega) ?_)
      intro v' w3 hown' hgrow hnil
      obtain ⟨g', cap', rfl⟩ := ownsRow_succ hown'
      have hv1 : Boxed w3 (w.heap.size + 2) 23 _ := (h3.alloc _).kept hgrow (h3.not_row (by decide) h5)
      have c3 := hv1.cell
      have z3 := hv1.frozen
      have hrow : ∀ r, (Value.slice A pre.length c).ownBlock = some r → X ≤ r := fun r e => (h5.lt r e).1
      have hr3 := hown'.kept (grownBy_setCell' w3 (w.heap.size + 2) (.slice (some ⟨g', 0, none⟩) (pre.length + 1) cap')) (.inr (hv1.not_row (by decide) hown').symm)
      have hW := h3.lt
      have hcap := ownsRow_cap hown'
      gi_wp2_with fail
      refine ⟨⟨?_, ?_⟩, by simp; omega, ?_, ⟨some ⟨g', 0, none⟩, cap', by simpa using hv1.set _, by simpa using hcap, by simpa using hr3⟩, ?_⟩
      · have := hgrow.size
        simp at this ⊢
        omega
      · intro k hk
        have hk2 : k ≠ w.heap.size + 2 ∧ k < X := by
          rcases hk with h | h
          · simp at h
          · omega
        rw [Below.heap_setCell _ _ _ _ hk2.1, hgrow.block k (by simp; omega) (fun e => by have := hrow k e.symm; omega), Below.heap_alloc _ _ _ (by omega)]
      · rw [Below.heap_setCell _ _ _ _ (by simp), hgrow.block _ (by simp; omega) (fun e => by have := hrow _ e.symm; omega), Below.heap_alloc _ _ _ (by omega)]
        exact h2
      · exact ((h6.alloc h6.size _).grown hgrow (by have := h6.size; simp; omega) (fun r e => by have := hrow r e; omega)).setCell (by simp) _
  case done =>
    rintro X D xs W hX hD hDX hS ⟨h1, h2, ⟨A, c, h3, h4, h5⟩, h6⟩ hK
    have c2 := h3.cell
    have HS := hide (show xs.map toL = (namesL (toL p)).take most by rw [← hS, List.take_of_length_le (by simpa using h1)])
    clear hS q0 q1 q2
    gi_wp2_with fail
    refine ⟨by simp, .inl ⟨_, _, rfl, run_takeDeferred hK, ?_⟩⟩
    refine ⟨_, results_tmp2 rfl _ _ _, A, c, xs, rfl, HS.out, h4, Rd.own (h5.kept (grownBy_putObj' _ D (.deferred none)) (.inr (fun e => by have := (h5.lt D e).1; omega))), ?_⟩
    exact h6.grown (grownBy_putObj' _ D (.deferred none)) h6.size (fun r e => by cases e; omega)
  case stop =>
    rintro X D c pre W hX hD hDX hSp ⟨rfl, cs, h0, h1, h2, ⟨A, c, h3, h4, h5⟩, h6⟩ hK
    have c2 := h3.cell
    have HS := hide (show cs.map toL = (namesL (toL p)).take most by
      obtain ⟨t, ht⟩ := h0
      obtain ⟨t', ht'⟩ := hSp
      rw [← ht', ← ht, List.map_append, List.append_assoc, List.take_append_of_le_length (by simp; omega), List.take_of_length_le (by simp; omega)])
    clear hSp q0 q1 q2 h0 h1
    gi_wp2_with fail
    refine ⟨by simp, .inl ⟨_, _, rfl, run_takeDeferred hK, ?_⟩⟩
    refine ⟨_, results_tmp2 rfl _ _ _, A, c, cs, rfl, HS.out, h4, Rd.own (h5.kept (grownBy_putObj' _ D (.deferred none)) (.inr (fun e => by have := (h5.lt D e).1; omega))), ?_⟩
    exact h6.grown (grownBy_putObj' _ D (.deferred none)) h6.size (fun r e => by cases e; omega)
/-- Texts that were told one by one. -/
def Told (w0 : World) (l : List (List UInt8)) (e : Ending) (w' : World) : Prop :=
  ∃ A c, ∃ cs : List ByteArray, e = .returned (.tuple #[.slice A cs.length c, .bool true]) ∧ cs.map toL = l ∧ cs.length ≤ c ∧ Rd w' w'.heap.size A cs ∧ Below w0.heap.size w0 w'
theorem lawUps_any (p : ByteArray) (most : Nat) (w : World) (hp : (p.size : Int) ≤ 1000000) (hm : (most : Int) ≤ 1000000) :
    Calls Tryd.prog 15 #[.string p, .int .i64 most] w (Told w ((upsL (toL p)).take most)) := callsIn_wide.1 (lawUps_in p most w hp hm)
theorem lawNames_any (p : ByteArray) (most : Nat) (w : World) (hp : (p.size : Int) ≤ 1000000) (hm : (most : Int) ≤ 1000000) :
    Calls Tryd.prog 14 #[.string p, .int .i64 most] w (Told w ((namesL (toL p)).take most)) := callsIn_wide.1 (lawNames_in p most w hp hm)
end Go.Proofs.YthmiffjhchhljaaDoor
