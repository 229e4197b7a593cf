/-
  roll.Find and the reference's Find.
-/
import Derived.Test.YtklficpogeidlabRollWin
namespace Go.Proofs.Ytklficpogeidlab
open Go.RowKit Go.Shelf
set_option maxRecDepth 100000
attribute [local go_sem] Oper.semAt_some

/-- Where a window first has a sum. -/
def findL (l : List UInt8) (k : Int) (s : Nat) : Option Nat := (winL l k).findIdx? (fun x => x.2 == s)
theorem chain_below (os : List Obj) : ∀ w : World, Below w.heap.size w (os.foldl World.alloc w) := by
  induction os with
  | nil => exact fun w => Below.refl _ w
  | cons o os ih =>
    intro w
    have h1 : Below w.heap.size w (w.alloc o) := (Below.refl _ w).alloc (Nat.le_refl _) _
    exact h1.trans ((ih (w.alloc o)).mono h1.size)
theorem chain_size (os : List Obj) : ∀ w : World, (os.foldl World.alloc w).heap.size = w.heap.size + os.length := by
  induction os with
  | nil => exact fun w => rfl
  | cons o os ih => intro w; show (os.foldl World.alloc (w.alloc o)).heap.size = _; rw [ih, World.size_alloc]; simp; omega
theorem chain_at (os : List Obj) : ∀ (w : World) (i : Nat) (o : Obj), os[i]? = some o → (os.foldl World.alloc w).heap[w.heap.size + i]? = some o := by
  induction os with
  | nil => intro w i o h; simp at h
  | cons a os ih =>
    intro w i o h
    show (os.foldl World.alloc (w.alloc a)).heap[w.heap.size + i]? = some o
    rcases i with _ | i
    · simp at h
      subst h
      have hb := chain_below os (w.alloc a)
      rw [Nat.add_zero, hb.block w.heap.size (by rw [World.size_alloc]; omega)]
      exact World.alloc_heap_new w a
    · have h2 := ih (w.alloc a) i o (by simpa using h)
      rw [World.size_alloc] at h2
      rw [show w.heap.size + (i + 1) = w.heap.size + 1 + i by omega]
      exact h2
/-- No window of the first ones has the sum. -/
def NoneIn (pre : List (Nat × Nat)) (s : Nat) : Prop := ∀ x ∈ pre, x.2 ≠ s
theorem winL_fst (l : List UInt8) (k : Int) (i : Nat) (x : Nat × Nat) (h : (winL l k)[i]? = some x) : x.1 = i := by
  unfold winL at h
  split at h
  · simp at h
  · rw [List.getElem?_map, Option.map_eq_some_iff] at h
    obtain ⟨a, ha, rfl⟩ := h
    have hl := (List.getElem?_eq_some_iff.1 ha).1
    rw [List.getElem?_range (by simpa using hl)] at ha
    injection ha with ha
    exact ha.symm
theorem find_none (l : List UInt8) (k : Int) (s : Nat) (h : NoneIn (winL l k) s) : findL l k s = none := by
  unfold findL
  rw [List.findIdx?_eq_none_iff]
  intro x hx
  simpa using h x hx
theorem find_some (l : List UInt8) (k : Int) (s : Nat) (pre : List (Nat × Nat)) (x : Nat × Nat) (hp : pre ++ [x] <+: winL l k) (hn : NoneIn pre s) (hx : x.2 = s) : findL l k s = some x.1 := by
  obtain ⟨r, hr⟩ := hp
  have hg : (winL l k)[pre.length]? = some x := by rw [← hr]; simp
  have hf := winL_fst l k _ x hg
  unfold findL
  rw [← hr, hf, List.append_assoc, List.findIdx?_append]
  have : List.findIdx? (fun y : Nat × Nat => y.2 == s) pre = none := by
    rw [List.findIdx?_eq_none_iff]
    intro y hy
    simpa using hn y hy
  rw [this]
  simp [List.findIdx?_cons, hx]

set_option maxHeartbeats 8000000 in
theorem find_in (A : Option Addr) (l : List UInt8) (c : Nat) (k : Int) (s : Nat) (w : World) (hA : RdB w w.heap.size A l) (hc : l.length ≤ c) (hl : l.length ≤ 40000) :
    CallsIn Fence.wide 5 Try.prog 8 #[.slice A l.length c, .int .i64 k, .int .u32 s] w fun e w' => e = .returned (.tuple #[.int .i64 ((findL l k s).getD 0 : Nat), .bool (findL l k s).isSome]) ∧ Below w.heap.size w w' := by
  refine callsIn_of_wp_marks Try.func8 rfl trivial ?_ rfl
  simp only [Try.ntmps8, List.size_toArray, List.length_cons, List.length_nil, Nat.reduceAdd, Nat.reduceSub, Array.replicate_succ, Array.replicate_zero, List.push_toArray, List.append_toArray, List.nil_append, List.cons_append]
  gi_wp2_with fail
  refine ⟨trivial, (callsIn_wide.2 (windows_any _ _ _ _ _)).mono ?_⟩
  rintro e w1 ⟨rfl, hw1⟩
  have hch : w1 = [Obj.cells #[.int .u32 s] 23, .cells #[.int .i64 0] 3, .cells #[.bool false] 4, .cells #[.slice A l.length c] 22, .cells #[.int .i64 k] 3].foldl World.alloc w := hw1
  have r0 := chain_at [Obj.cells #[.int .u32 s] 23, .cells #[.int .i64 0] 3, .cells #[.bool false] 4, .cells #[.slice A l.length c] 22, .cells #[.int .i64 k] 3] w 0 _ rfl
  have r1 := chain_at [Obj.cells #[.int .u32 s] 23, .cells #[.int .i64 0] 3, .cells #[.bool false] 4, .cells #[.slice A l.length c] 22, .cells #[.int .i64 k] 3] w 1 _ rfl
  have r2 := chain_at [Obj.cells #[.int .u32 s] 23, .cells #[.int .i64 0] 3, .cells #[.bool false] 4, .cells #[.slice A l.length c] 22, .cells #[.int .i64 k] 3] w 2 _ rfl
  have r3 := chain_at [Obj.cells #[.int .u32 s] 23, .cells #[.int .i64 0] 3, .cells #[.bool false] 4, .cells #[.slice A l.length c] 22, .cells #[.int .i64 k] 3] w 3 _ rfl
  have r4 := chain_at [Obj.cells #[.int .u32 s] 23, .cells #[.int .i64 0] 3, .cells #[.bool false] 4, .cells #[.slice A l.length c] 22, .cells #[.int .i64 k] 3] w 4 _ rfl
  have hB := chain_below [Obj.cells #[.int .u32 s] 23, .cells #[.int .i64 0] 3, .cells #[.bool false] 4, .cells #[.slice A l.length c] 22, .cells #[.int .i64 k] 3] w
  have hz := chain_size [Obj.cells #[.int .u32 s] 23, .cells #[.int .i64 0] 3, .cells #[.bool false] 4, .cells #[.slice A l.length c] 22, .cells #[.int .i64 k] 3] w
  rw [← hch] at r0 r1 r2 r3 r4 hB hz
  rw [Nat.add_zero] at r0
  simp only [List.length_cons, List.length_nil, Nat.reduceAdd] at hz
  have hA1 := (hA.below hB (Nat.le_refl _)).mono hB.size
  have hg := blkR_lt hA
  clear hch hw1
  gi_wp2_with fail
  refine wpIn_rangeK (α := Nat × Nat) rfl (by omega) (gf := 26) (lb := #[.pointer (some ⟨w.heap.size + 4, 0, none⟩), .pointer (some ⟨w.heap.size + 3, 0, none⟩)]) rfl trivial
    (enters_of Try.func26 (by kernel_rfl) rfl) (L := []) (K := (w.heap.size + 4) :: (w.heap.size + 3) :: blkR A l) (by intro j hj; simp at hj)
    (by
      intro j hj
      rcases List.mem_cons.1 hj with rfl | hj
      · omega
      · rcases List.mem_cons.1 hj with rfl | hj
        · omega
        · have := hg j hj; omega)
    (windows_seq 4 (w.heap.size + 4) (w.heap.size + 3) A l c k w1 hA1 hc hl (by omega) (by omega) r4 r3) (fun _ => rfl)
    (fun X pre W => W.heap[w.heap.size]? = some (.cells #[.int .u32 s] 23 (0, 0)) ∧ W.heap[w.heap.size + 1]? = some (.cells #[.int .i64 0] 3 (0, 0)) ∧ W.heap[w.heap.size + 2]? = some (.cells #[.bool false] 4 (0, 0)) ∧ Below w.heap.size w W ∧ NoneIn pre s)
    (fun X c pre W => c = .ret ∧ ∃ q : Nat, findL l k s = some q ∧ W.heap[w.heap.size + 1]? = some (.cells #[.int .i64 q] 3 (0, 0)) ∧ W.heap[w.heap.size + 2]? = some (.cells #[.bool true] 4 (0, 0)) ∧ Below w.heap.size w W)
    ?hI ?hIx (fun X hX => ⟨r0, r1, r2, hB, fun x hx => by simp at hx⟩)
    (fun x => { tmps := #[.slice A l.length c, .int .i64 k, .int .u32 s, undef, undef, .pointer (some ⟨w.heap.size, 0, none⟩), .pointer (some ⟨w.heap.size + 1, 0, none⟩), .pointer (some ⟨w.heap.size + 1 + 1, 0, none⟩), .int .i64 (x.1 : Nat), .int .u32 (x.2 : Nat), .slice A l.length c, .int .i64 k, .func (.func 26) #[] #[.pointer (some ⟨w.heap.size + 1 + 1 + 1 + 1, 0, none⟩), .pointer (some ⟨w.heap.size + 1 + 1 + 1, 0, none⟩)], .int .i64 (x.1 : Nat), .int .u32 (x.2 : Nat), undef, undef, undef, undef], defers := [] }) ?assign ?body ?done ?stop
  case hI =>
    rintro X hX pre A2 B2 row ⟨h1, h2, h3, h4, h5⟩ hgr hr
    have ne : ∀ j, row = some j → w1.heap.size ≤ j := fun j e => by
      rcases hr j e with h | h
      · simp at h
      · exact h.1
    refine ⟨(hgr.block _ (Array.getElem?_eq_some_iff.1 h1).1 (fun e => ?_)).trans h1, (hgr.block _ (Array.getElem?_eq_some_iff.1 h2).1 (fun e => ?_)).trans h2, (hgr.block _ (Array.getElem?_eq_some_iff.1 h3).1 (fun e => ?_)).trans h3, h4.grown hgr h4.size (fun r e => ?_), h5⟩
    · have := ne _ e.symm; omega
    · have := ne _ e.symm; omega
    · have := ne _ e.symm; omega
    · have := ne _ e; omega
  case hIx =>
    rintro X cd hX pre A2 B2 row ⟨h0, q, hq, h2, h3, h4⟩ hgr hr
    have ne : ∀ j, row = some j → w1.heap.size ≤ j := fun j e => by
      rcases hr j e with h | h
      · simp at h
      · exact h.1
    refine ⟨h0, q, hq, (hgr.block _ (Array.getElem?_eq_some_iff.1 h2).1 (fun e => ?_)).trans h2, (hgr.block _ (Array.getElem?_eq_some_iff.1 h3).1 (fun e => ?_)).trans h3, h4.grown hgr h4.size (fun r e => ?_)⟩
    · have := ne _ e.symm; omega
    · have := ne _ e.symm; omega
    · have := ne _ e; omega
  case assign =>
    intro lp x W KK hK
    gi_wp2
    exact hK
  case body =>
    rintro X lp pre x W hX hXW ⟨h1, h2, h3, h4, h5⟩ hpre
    have c0 : W.cell? ⟨w.heap.size, 0, none⟩ = some (.int .u32 s) := cell_of_row _ _ _ _ _ _ h1
    have c1 : W.cell? ⟨w.heap.size + 1, 0, none⟩ = some (.int .i64 0) := cell_of_row _ _ _ _ _ _ h2
    have z1 : W.frozen? ⟨w.heap.size + 1, 0, none⟩ = false := frozen_of_row _ _ _ _ _ h2
    have c2 : W.cell? ⟨w.heap.size + 1 + 1, 0, none⟩ = some (.bool false) := cell_of_row _ _ _ _ _ _ h3
    have z2 : W.frozen? ⟨w.heap.size + 1 + 1, 0, none⟩ = false := frozen_of_row _ _ _ _ _ h3
    have HP := hide hpre
    have H5 := hide h5
    obtain ⟨x1, x2⟩ := x
    clear hpre h5
    by_cases he : x2 = s
    · have hq := hide (find_some l k s pre (x1, x2) HP.out H5.out he)
      subst he
      have HX := hide (And.intro (heap_setCell_same W (w.heap.size + 1) 0 _ _ (.int .i64 (x1 : Nat)) h2) (And.intro h3 (And.intro h4 h1)))
      clear h1 h2 h3 h4
      gi_wp2_with fail
      obtain ⟨g1, g2, g3, g4⟩ := HX.out
      have g2' : (W.setCell ⟨w.heap.size + 1, 0, none⟩ (.int .i64 (x1 : Nat))).heap[w.heap.size + 2]? = some (.cells #[.bool false] 4 (0, 0)) := (heap_setCell_other _ _ _ _ (by simp)).trans g2
      refine ⟨(Lies.grown (grownBy_setCell W ⟨w.heap.size + 1, 0, none⟩ (.int .i64 (x1 : Nat))) ?_ ?_).trans (Lies.grown (grownBy_setCell _ ⟨w.heap.size + 1 + 1, 0, none⟩ (.bool true)) ?_ ?_), rfl, x1, hq.out, (heap_setCell_other _ _ _ _ (by simp)).trans g1, heap_setCell_same _ _ _ _ _ _ g2', (g3.setCell (p := ⟨w.heap.size + 1, 0, none⟩) (by simp) _).setCell (p := ⟨w.heap.size + 1 + 1, 0, none⟩) (by simp; omega) _⟩
      · intro j hj
        rcases hj with (hj | hj) | hj
        · simp at hj
        · omega
        · rcases List.mem_cons.1 hj with rfl | hj
          · omega
          · rcases List.mem_cons.1 hj with rfl | hj
            · omega
            · have := hg j hj; omega
      · intro r e hj
        cases e
        rcases hj with (hj | hj) | hj
        · simp at hj
        · have h1 : w.heap.size + 5 ≤ w.heap.size + 1 := hj.1
          omega
        · rcases List.mem_cons.1 hj with hj | hj
          · simp at hj
          · rcases List.mem_cons.1 hj with hj | hj
            · simp at hj
            · have h1 : w.heap.size + 1 < w.heap.size := hg _ hj
              omega
      · intro j hj
        have hs : (W.setCell ⟨w.heap.size + 1, 0, none⟩ (.int .i64 (x1 : Nat))).heap.size = W.heap.size := by simp [World.setCell]
        rw [hs]
        rcases hj with (hj | hj) | hj
        · simp at hj
        · omega
        · rcases List.mem_cons.1 hj with rfl | hj
          · omega
          · rcases List.mem_cons.1 hj with rfl | hj
            · omega
            · have := hg j hj; omega
      · intro r e hj
        cases e
        rcases hj with (hj | hj) | hj
        · simp at hj
        · have h1 : w.heap.size + 5 ≤ w.heap.size + 1 + 1 := hj.1
          omega
        · rcases List.mem_cons.1 hj with hj | hj
          · simp at hj
          · rcases List.mem_cons.1 hj with hj | hj
            · simp at hj
            · have h1 : w.heap.size + 1 + 1 < w.heap.size := hg _ hj
              omega
    · have E : ((x2 : Int) == (s : Int)) = false := by rw [beq_eq_false_iff_ne]; omega
      have HX := hide (And.intro h1 (And.intro h2 (And.intro h3 h4)))
      have HE := hide he
      clear he h1 h2 h3 h4
      gi_wp2_with fail
      refine ⟨Lies.refl _ _, HX.out.1, HX.out.2.1, HX.out.2.2.1, HX.out.2.2.2, fun y hy => ?_⟩
      rcases List.mem_append.1 hy with h | h
      · exact H5.out y h
      · simp at h; subst h; exact HE.out
  case done =>
    rintro X D xs W hX hD hDX hS ⟨h1, h2, h3, h4, h5⟩ hK
    have hq := hide (find_none l k s (by rw [← hS]; exact h5))
    have c1 : W.cell? ⟨w.heap.size + 1, 0, none⟩ = some (.int .i64 0) := cell_of_row _ _ _ _ _ _ h2
    have z1 : W.frozen? ⟨w.heap.size + 1, 0, none⟩ = false := frozen_of_row _ _ _ _ _ h2
    have c2 : W.cell? ⟨w.heap.size + 1 + 1, 0, none⟩ = some (.bool false) := cell_of_row _ _ _ _ _ _ h3
    have z2 : W.frozen? ⟨w.heap.size + 1 + 1, 0, none⟩ = false := frozen_of_row _ _ _ _ _ h3
    clear hS h5
    have k1 : ((W.setCell ⟨w.heap.size + 1, 0, none⟩ (.int .i64 0)).setCell ⟨w.heap.size + 1 + 1, 0, none⟩ (.bool false)).heap[w.heap.size + 1]? = some (.cells #[.int .i64 0] 3 (0, 0)) := (heap_setCell_other _ _ _ _ (by simp)).trans (heap_setCell_same _ _ _ _ _ _ h2)
    have k2 : ((W.setCell ⟨w.heap.size + 1, 0, none⟩ (.int .i64 0)).setCell ⟨w.heap.size + 1 + 1, 0, none⟩ (.bool false)).heap[w.heap.size + 1 + 1]? = some (.cells #[.bool false] 4 (0, 0)) := heap_setCell_same _ _ _ _ _ _ ((heap_setCell_other _ _ _ _ (by simp)).trans h3)
    have kD : ((W.setCell ⟨w.heap.size + 1, 0, none⟩ (.int .i64 0)).setCell ⟨w.heap.size + 1 + 1, 0, none⟩ (.bool false)).heap[D]? = some (.deferred (some [])) := (heap_setCell_other _ _ _ _ (by simp; omega)).trans ((heap_setCell_other _ _ _ _ (by simp; omega)).trans hK)
    have kB : Below w.heap.size w ((W.setCell ⟨w.heap.size + 1, 0, none⟩ (.int .i64 0)).setCell ⟨w.heap.size + 1 + 1, 0, none⟩ (.bool false)) := (h4.setCell (p := ⟨w.heap.size + 1, 0, none⟩) (by simp) _).setCell (p := ⟨w.heap.size + 1 + 1, 0, none⟩) (by simp; omega) _
    have HK := hide (And.intro k1 (And.intro k2 (And.intro kD kB)))
    clear k1 k2 kD kB h1 h2 h3 h4 hK
    gi_wp2_with fail
    obtain ⟨k1, k2, kD, kB⟩ := HK.out
    refine ⟨by simp, .inl ⟨_, _, rfl, run_takeDeferred kD, ?_⟩⟩
    have y1 : (((W.setCell ⟨w.heap.size + 1, 0, none⟩ (.int .i64 0)).setCell ⟨w.heap.size + 1 + 1, 0, none⟩ (.bool false)).putObj D (.deferred none)).cell? ⟨w.heap.size + 1, 0, none⟩ = some (.int .i64 0) := cell_of_row _ _ _ _ _ _ ((World.putObj_heap_other (by omega)).trans k1)
    have y2 : (((W.setCell ⟨w.heap.size + 1, 0, none⟩ (.int .i64 0)).setCell ⟨w.heap.size + 1 + 1, 0, none⟩ (.bool false)).putObj D (.deferred none)).cell? ⟨w.heap.size + 1 + 1, 0, none⟩ = some (.bool false) := cell_of_row _ _ _ _ _ _ ((World.putObj_heap_other (by omega)).trans k2)
    refine ⟨.tuple #[.int .i64 0, .bool false], by simp [results, Try.results8, go_sem, y1, y2], by rw [hq.out]; rfl, ?_⟩
    exact kB.grown (grownBy_putObj' _ D (.deferred none)) kB.size (fun r e => by cases e; omega)
  case stop =>
    rintro X D cd pre W hX hD hDX hS ⟨rfl, q, hq, h2, h3, h4⟩ hK
    have k1 : W.heap[w.heap.size + 1]? = some (.cells #[.int .i64 q] 3 (0, 0)) := h2
    have k2 : W.heap[w.heap.size + 1 + 1]? = some (.cells #[.bool true] 4 (0, 0)) := h3
    have HQ := hide hq
    have HK := hide (And.intro k1 (And.intro k2 (And.intro hK h4)))
    clear k1 k2 h2 h3 h4 hK hq
    gi_wp2_with fail
    obtain ⟨k1, k2, kD, kB⟩ := HK.out
    refine ⟨by simp, .inl ⟨_, _, rfl, run_takeDeferred kD, ?_⟩⟩
    have y1 : (W.putObj D (.deferred none)).cell? ⟨w.heap.size + 1, 0, none⟩ = some (.int .i64 q) := cell_of_row _ _ _ _ _ _ ((World.putObj_heap_other (by omega)).trans k1)
    have y2 : (W.putObj D (.deferred none)).cell? ⟨w.heap.size + 1 + 1, 0, none⟩ = some (.bool true) := cell_of_row _ _ _ _ _ _ ((World.putObj_heap_other (by omega)).trans k2)
    refine ⟨.tuple #[.int .i64 q, .bool true], by simp [results, Try.results8, go_sem, y1, y2], by rw [HQ.out]; rfl, ?_⟩
    exact kB.grown (grownBy_putObj' _ D (.deferred none)) kB.size (fun r e => by cases e; omega)
theorem find_any (A : Option Addr) (l : List UInt8) (c : Nat) (k : Int) (s : Nat) (w : World) (hA : RdB w w.heap.size A l) (hc : l.length ≤ c) (hl : l.length ≤ 40000) :
    Calls Try.prog 8 #[.slice A l.length c, .int .i64 k, .int .u32 s] w fun e w' => e = .returned (.tuple #[.int .i64 ((findL l k s).getD 0 : Nat), .bool (findL l k s).isSome]) ∧ Below w.heap.size w w' :=
  callsIn_wide.1 (find_in A l c k s w hA hc hl)
end Go.Proofs.Ytklficpogeidlab
