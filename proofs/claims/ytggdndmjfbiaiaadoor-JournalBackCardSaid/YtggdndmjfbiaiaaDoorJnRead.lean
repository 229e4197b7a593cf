/-
  journal.Read: the records of a text.
-/
import Derived.Test.YtggdndmjfbiaiaaDoorJnSeq
import Derived.Test.YtggdndmjfbiaiaaDoorJnRecs
import Derived.Test.YtggdndmjfbiaiaaDoorRangeC
import Derived.OwnWalkIn
namespace Go.Proofs.YtggdndmjfbiaiaaDoor
open Go.RowKit Go.Shelf
set_option maxRecDepth 100000

/-- What Read answers: a slice of these records. -/
def ReadTo (l : List (Int × Int)) (w : World) (e : Ending) (w' : World) : Prop :=
  ∃ (A : Option Addr) (c : Nat), e = .returned (.slice A l.length c) ∧ Below w.heap.size w w' ∧ RdR w' w'.heap.size A l ∧ Caps A l.length c
/-- What Read has put together. -/
structure JRI (w : World) (X : Nat) (v : Value) (rs : List (Int × Int)) (W : World) : Prop where
  below : Below w.heap.size w W
  b0 : W.heap[w.heap.size]? = some (.cells #[v] 26 (0, 0))
  own : W.ownsRow X 34 2 v rs.length (cellsR rs)
theorem JRI.grown {w A B : World} {X : Nat} {v : Value} {rs : List (Int × Int)} {row : Option Nat} (h : JRI w X v rs A) (hg : A.grownBy B row) (hr : ∀ r, row = some r → w.heap.size + 1 ≤ r ∧ r < X) : JRI w X v rs B := by
  have ne : ∀ k, k < w.heap.size + 1 → ¬ k = row := fun k hk e => by have := (hr k e.symm).1; omega
  refine ⟨h.below.grown hg h.below.size (fun r e => by have := (hr r e).1; omega), (hg.block _ (Array.getElem?_eq_some_iff.1 h.b0).1 (fun e => ne _ (by omega) e)).trans h.b0, h.own.kept hg ?_⟩
  cases ho : v.ownBlock with
  | none => exact .inl rfl
  | some k =>
    right
    intro e
    have h1 := (h.own.lt k ho).1
    have h2 := (hr k e.symm).2
    omega
theorem JRI.more {w W w' : World} {X : Nat} {v v' : Value} {rs : List (Int × Int)} {x : Int × Int} (h : JRI w X v rs W) (O : Obj) (hX : w.heap.size + 1 ≤ X) (hWX : X ≤ W.heap.size) (ho : w'.ownsRow X 34 2 v' (rs.length + 1) (cellsR rs ++ cellsR [x])) (hg : (W.alloc O).grownBy w' v.ownBlock) :
    w'.heap[w.heap.size]? = some (.cells #[v] 26 (0, 0)) ∧ JRI w X v' (rs ++ [x]) (w'.setCell ⟨w.heap.size, 0, none⟩ v') ∧
    ∀ (U : Nat → Prop) (W0 : World), (∀ k, U k → k < X ∧ k ≠ w.heap.size) → Lies U W0 W → Lies U W0 (w'.setCell ⟨w.heap.size, 0, none⟩ v') := by
  have h1 : JRI w X v rs (W.alloc O) := h.grown (World.grownBy_alloc _ _ none) (fun r e => by cases e)
  have ne : ∀ k, k < X → ¬ some k = v.ownBlock := fun k hk e => by have := (h1.own.lt k e.symm).1; omega
  have keep : ∀ (k : Nat) (o : Obj), k < X → (W.alloc O).heap[k]? = some o → w'.heap[k]? = some o := fun k o hk hh => (hg.block k (Array.getElem?_eq_some_iff.1 hh).1 (fun e => ne k hk e)).trans hh
  have e0 := keep _ _ (by omega) h1.b0
  refine ⟨e0, ⟨?_, heap_setCell_same _ _ _ _ _ _ e0, ?_⟩, fun U W0 hU hL => ?_⟩
  · exact (h1.below.grown hg h1.below.size (fun r e => by have := (h1.own.lt r e).1; omega)).setCell (p := ⟨w.heap.size, 0, none⟩) (by simp) _
  · rw [List.length_append, cellsR_app]
    exact ownsRow_setCell_below ho (by show w.heap.size < X; omega) _
  · refine ⟨?_, fun k hk => ?_⟩
    · have := hL.1
      have := hg.size
      simp [World.setCell] at this ⊢
      omega
    · obtain ⟨hk1, hk2⟩ := hU k hk
      have e4 : (W.alloc O).heap[k]? = W.heap[k]? := Below.heap_alloc _ _ _ (by omega)
      exact (heap_setCell_other _ _ _ _ (fun e => hk2 e)).trans ((hg.block k (by simp; omega) (fun e => ne k hk1 e)).trans (e4.trans (hL.2 k hk)))
theorem lines_few (s : List UInt8) : (readJ (linesL s)).length ≤ s.length := by
  have h1 := (lines_in _ s (Nat.le_refl _)).1
  have h2 : ∀ l : List (List UInt8), (readJ l).length ≤ l.length := by
    intro l
    induction l with
    | nil => exact Nat.le_refl _
    | cons x t ih =>
      cases h : recJ x with
      | none => rw [readJ_no h]; simp
      | some p => rw [readJ_yes h]; simpa using ih
  have := h2 (linesL s)
  omega
attribute [local go_sem] Oper.semAt_some
set_option maxHeartbeats 8000000 in
theorem jread_in (s : ByteArray) (w : World) (hs : (s.size : Int) ≤ 100000) (hT : Tabs w) : CallsIn Fence.wide 6 Tryd.prog 8 #[.string s] w (ReadTo (readJ (linesL (toL s))) w) := by
  obtain ⟨i0, hi, hz0, hz1, hz2⟩ := info_parts info_rec
  obtain ⟨R, hRe⟩ : ∃ R, R = readJ (linesL (toL s)) := ⟨_, rfl⟩
  have HRe := hide hRe
  have HRs := hide (show R.length ≤ s.size by rw [hRe]; have := lines_few (toL s); rw [size_toL] at this; exact this)
  rw [← hRe]
  clear hRe
  have h3w := hT.lt
  refine callsIn_of_wp_marks Tryd.func8 rfl trivial ?_ rfl
  simp only [Tryd.ntmps8, List.size_toArray, List.length_cons, List.length_nil, Nat.reduceAdd, Nat.reduceSub, Array.replicate_succ, Array.replicate_zero, List.push_toArray, List.append_toArray, List.nil_append, List.cons_append]
  gi_wp2_with fail
  refine ⟨trivial, (callsIn_wide.2 (records_any s _)).mono ?_⟩
  rintro e w1 ⟨rfl, hw1⟩
  have hz1' : w1.heap.size = w.heap.size + 2 := by rw [hw1]; simp
  have kL : w1.heap[w.heap.size]? = some (.cells #[.slice none 0 0] 26 (0, 0)) := by
    rw [hw1, Below.heap_alloc _ _ _ (by simp <;> omega)]
    exact World.alloc_heap_new _ _
  have kS : w1.heap[w.heap.size + 1]? = some (.cells #[.string s] 9 (0, 0)) := by
    rw [hw1]
    have h := World.alloc_heap_new (w.alloc (.cells #[.slice none 0 0] 26)) (Obj.cells #[.string s] 9)
    simp only [World.size_alloc] at h
    exact h
  have hB1 : Below w.heap.size w w1 := by rw [hw1]; exact ((Below.refl _ w).alloc (Nat.le_refl _) _).alloc (by simp) _
  have e2 : (w.alloc (Obj.cells #[.slice none 0 0] 26)).heap.size = w.heap.size + 1 := by simp
  rw [e2]
  have HT1 := hide (hT.below hB1)
  clear hw1 e2
  have HI0 := hide (fun X => (⟨hB1, kL, World.ownsRow_nil _ _ _ _⟩ : JRI w X (.slice none 0 0) [] w1))
  gi_wp2_with fail
  refine wpIn_rangeC (α := Int × Int) rfl (by omega) (gf := 18) (lb := #[.pointer (some ⟨w.heap.size + 1, 0, none⟩)]) rfl trivial
    (enters_of Tryd.func18 (by kernel_rfl) rfl) (L := []) (K := tabK) (by intro k hk; simp at hk) (fun k hk => by have := tab_lt hk; omega)
    (rec_seq 5 (w.heap.size + 1) s w1 hs HT1.out (by omega) kS) (fun _ => rfl)
    (fun X pre W => ∃ v, JRI w X v pre W) (fun X c pre W => False) ?hI (fun X c hX s A B row h => h.elim) (fun X hX => ⟨_, HI0.out X⟩)
    (fun x => .cells #[.int .i64 x.1, .int .i64 x.2] 34)
    (fun x g => { tmps := #[.string s, undef, .slice none 0 0, .pointer (some ⟨w.heap.size, 0, none⟩), .pointer (some ⟨g, 0, none⟩), .string s, .func (.func 18) #[] #[.pointer (some ⟨w.heap.size + 1, 0, none⟩)], .agg #[.int .i64 x.1, .int .i64 x.2],
      undef, undef, undef, undef, undef], defers := [] }) ?assign ?body ?done (fun X D c pre W _ _ _ _ h => h.elim)
  case hI =>
    rintro X hX pre A B row ⟨v, h⟩ hg hr
    refine ⟨v, h.grown hg (fun r e => ?_)⟩
    rcases hr r e with h | h
    · simp at h
    · omega
  case assign =>
    intro l x W K hK
    gi_wp2
    exact hK
  case body =>
    rintro X ll pre x g W hX hXg hgW hx ⟨v, hI⟩ hpre
    obtain ⟨xk, xn⟩ := x
    obtain ⟨A, c, rfl⟩ := ownsRow_slice hI.own
    have hlen : pre.length < s.size := by
      have h1 := hpre.length_le
      rw [← HRe.out] at h1
      have h2 := HRs.out
      simp at h1
      omega
    have c0 : W.cell? ⟨g, 0, none⟩ = some (.int .i64 xk) := cell_of_row _ _ _ _ _ _ hx
    have c1 : W.cell? ⟨g, 1, none⟩ = some (.int .i64 xn) := cell_of_row _ _ _ _ _ _ hx
    have l0 : W.cell? ⟨w.heap.size, 0, none⟩ = some (.slice A pre.length c) := cell_of_row _ _ _ _ _ _ hI.b0
    have hOwn := hI.own
    have HMore := hide (fun (v' : Value) (w' : World) (O : Obj) => JRI.more (x := (xk, xn)) (v' := v') (w' := w') hI O (by omega) (by omega))
    have hU : ∀ k, ItsK [] tabK w1.heap.size X k → k < X ∧ k ≠ w.heap.size := fun k hk => by
      rcases hk with (hk | hk) | hk
      · simp at hk
      · omega
      · have := tab_lt hk; omega
    have HU := hide hU
    have hXW : X ≤ W.heap.size := by omega
    clear hI hx hU kL kS hB1
    gi_wp2_with (gi_at_builtin; refine wpListIn_append_own _ rfl _ _ 26 rfl X 34 i0 _ 2 16 Tryd.underlying26 hi hz0 hz1 hz2 rfl (by decide) _ _ _ rfl (hOwn.alloc _) ⟨W.heap.size, 0, none⟩ 1 1 (cellsR [(xk, xn)]) rfl rfl (new_rec _ _ _ _) (cellsR_one _) (by unfold maxLen; omega) (by omega) (by simp; omega) ?_)
    intro v' w' hO' hg hnil
    obtain ⟨A', c', rfl⟩ := ownsRow_slice hO'
    obtain ⟨m1, m2, m3⟩ := HMore.out _ _ _ hO' hg
    have y0 : w'.cell? ⟨w.heap.size, 0, none⟩ = some (.slice A pre.length c) := cell_of_row _ _ _ _ _ _ m1
    have y1 : w'.frozen? ⟨w.heap.size, 0, none⟩ = false := frozen_of_row _ _ _ _ _ m1
    have M2 := hide m2
    have M3 := hide (m3 _ W HU.out (Lies.refl _ _))
    clear m1 m2 m3 hO' hg hnil HMore hOwn c0 c1 l0
    gi_wp2_with fail
    exact ⟨M3.out, _, M2.out⟩
  case done =>
    rintro X D xs W hX hD hDX hS ⟨v, hI⟩ hK
    rw [← HRe.out] at hS
    obtain ⟨A, c, rfl⟩ := ownsRow_slice hI.own
    have l0 : W.cell? ⟨w.heap.size, 0, none⟩ = some (.slice A xs.length c) := cell_of_row _ _ _ _ _ _ hI.b0
    have HI := hide hI
    have HS := hide hS
    clear hI hS kL kS hB1
    gi_wp2_with fail
    refine ⟨by simp, .inl ⟨_, _, rfl, run_takeDeferred hK, ?_⟩⟩
    have hI2 : JRI w X (.slice A xs.length c) xs (W.putObj D (.deferred none)) := HI.out.grown (grownBy_putObj' W D (.deferred none)) (fun r e => by cases e; omega)
    refine ⟨_, results_tmp rfl _ _ _, A, c, ?_, hI2.below, ?_, ?_⟩
    · rw [← HS.out]; rfl
    · rw [← HS.out]; exact RdR.own hI2.own
    · rw [← HS.out]; exact ownsRow_caps hI2.own
end Go.Proofs.YtggdndmjfbiaiaaDoor
