/-
  A pattern as it lies in memory: how many parts, and 64 parts of five cells each.
-/
import Derived.Test.YtmdlefagkfkenabGlobMine
import Derived.Deep.MidRow
import Derived.KernelRfl
namespace Go.Proofs.Ytmdlefagkfkenab
open Go.RowKit

abbrev GPart := Bool × (Nat → Bool)

/-- The i-th cell of a list of parts, zero behind them. -/
def partC (l : List GPart) (i : Nat) : Value :=
  match l[i / 5]? with
  | some p => (partV p.1 p.2)[i % 5]?.getD undef
  | none => part0[i % 5]?.getD undef

/-- A pattern's cells. -/
def patC (l : List GPart) (i : Nat) : Value := if i = 0 then .int .i64 (l.length : Nat) else partC l (i - 1)
def patV (l : List GPart) : Array Value := Array.ofFn (n := 321) fun i => patC l i

theorem patV_size (l : List GPart) : (patV l).size = 321 := by simp [patV]
theorem patV_get (l : List GPart) (i : Nat) (h : i < 321) : (patV l)[i]? = some (patC l i) := by
  unfold patV
  rw [Array.getElem?_ofFn, dif_pos h]

theorem zero_pat (w : World) : Sem.run Try.prog (zeroValue 34) w = .ok (.agg (patV [])) w := by kernel_rfl
theorem build_pat (w : World) : Sem.run Try.prog (Instr.build 34 #[]) w = .ok (.agg (patV [])) w := by kernel_rfl
theorem info_pat : (Try.prog.info? 34).map (·.size) = some 321 := by kernel_rfl

/-- The call's own two blocks: the answer's, still zero, and the pattern's. -/
structure PMine (w wr : World) (l : List GPart) : Prop where
  below : Below w.heap.size w wr
  size : w.heap.size + 1 < wr.heap.size
  out : wr.heap[w.heap.size]? = some (.cells (patV []) 34 (0, 0))
  pat : wr.heap[w.heap.size + 1]? = some (.cells (patV l) 34 (0, 0))

theorem PMine.start (w : World) : PMine w ((w.alloc (Obj.cells (patV []) 34)).alloc (Obj.cells (patV []) 34)) [] :=
  ⟨((Below.refl _ _).alloc (Nat.le_refl _) _).alloc (by simp) _, by simp, heap_alloc2_old _ _ _, heap_alloc2_new _ _ _⟩

theorem PMine.after {w wr w1 : World} {l : List GPart} (h : PMine w wr l) (hb : Below wr.heap.size wr w1) : PMine w w1 l :=
  ⟨h.below.trans (hb.mono h.below.size), Nat.lt_of_lt_of_le h.size hb.size, (hb.block _ (by have := h.size; omega)).trans h.out, (hb.block _ h.size).trans h.pat⟩

theorem PMine.alloc {w wr : World} {l : List GPart} (h : PMine w wr l) (o : Obj) : PMine w (wr.alloc o) l := h.after ((Below.refl _ _).alloc (Nat.le_refl _) o)

theorem partV_one (m : Bool) (P : Nat → Bool) (j : Nat) (hj : j < 5) : ((partV m P)[j]?.getD undef).oneCell' = true := by
  rcases j with _ | _ | _ | _ | _ | j
  · rfl
  · rfl
  · rfl
  · rfl
  · rfl
  · omega
theorem part0_one (j : Nat) (hj : j < 5) : (part0[j]?.getD undef).oneCell' = true := by
  rcases j with _ | _ | _ | _ | _ | j
  · rfl
  · rfl
  · rfl
  · rfl
  · rfl
  · omega
theorem patC_one (l : List GPart) (i : Nat) : (patC l i).oneCell' = true := by
  unfold patC partC
  split
  · rfl
  · split
    · exact partV_one _ _ _ (Nat.mod_lt _ (by omega))
    · exact part0_one _ (Nat.mod_lt _ (by omega))
theorem patV_one (l : List GPart) : ∀ v ∈ (patV l).toList, v.oneCell' = true := by
  intro v hv
  unfold patV at hv
  rw [Array.mem_toList_iff, Array.mem_ofFn] at hv
  obtain ⟨i, rfl⟩ := hv
  exact patC_one l i

/-- A whole pattern stored over another one. -/
theorem store_pat (l l' : List GPart) (g : Nat) (W : World) (h : W.heap[g]? = some (.cells (patV l) 34 (0, 0))) :
    Sem.run Try.prog (storeCells ⟨g, 0, none⟩ (patV l').toList) W = .ok () (W.setRow g (patV l')) := by
  have e := run_storeCells_from (P := Try.prog) g 34 (patV l').toList 0 (patV l) W h (by simp [patV_size]) (patV_one l')
  simpa using e

theorem below_setRow {B g : Nat} {a w : World} (h : Below B a w) (hg : B ≤ g) (cs : Array Value) : Below B a (w.setRow g cs) :=
  h.trans ⟨rfl, rfl, rfl, by simp, fun k hk => setRow_other _ _ _ _ (by omega)⟩

theorem PMine.n0 {w wr : World} {l : List GPart} (h : PMine w wr l) : wr.cell? ⟨w.heap.size + 1, 0, none⟩ = some (.int .i64 (l.length : Nat)) := by
  rw [cell_of_row _ _ _ _ _ _ h.pat, patV_get _ _ (by omega)]
  rfl
theorem PMine.cx {w wr : World} {l : List GPart} (h : PMine w wr l) (i : Nat) (hi : i < 321) : wr.cell? ⟨w.heap.size + 1, i, none⟩ = some (patC l i) := by
  rw [cell_of_row _ _ _ _ _ _ h.pat, patV_get _ _ hi]
theorem PMine.fz {w wr : World} {l : List GPart} (h : PMine w wr l) (i : Nat) : wr.frozen? ⟨w.heap.size + 1, i, none⟩ = false := frozen_of_row _ _ _ _ _ h.pat

theorem patC_snoc (l : List GPart) (p : GPart) (i : Nat) : patC (l ++ [p]) i = if i = 0 then .int .i64 ((l.length + 1 : Nat) : Int) else if (i - 1) / 5 = l.length then (partV p.1 p.2)[(i - 1) % 5]?.getD undef else patC l i := by
  unfold patC partC
  by_cases h0 : i = 0
  · simp [h0]
  · simp only [h0, if_false]
    by_cases h1 : (i - 1) / 5 = l.length
    · simp [h1]
    · simp only [h1, if_false]
      by_cases h2 : (i - 1) / 5 < l.length
      · rw [List.getElem?_append_left h2]
      · rw [List.getElem?_append_right (by omega), List.getElem?_eq_none (l := l) (by omega), List.getElem?_eq_none (by simp; omega)]

theorem patV_snoc (l : List GPart) (m : Bool) (P : Nat → Bool) (hl : l.length < 64) :
    ((((((patV l).setIfInBounds (1 + l.length * 5) (.bool m)).setIfInBounds (1 + l.length * 5 + 1) (.int .u64 (wd P 0 : Nat))).setIfInBounds (1 + l.length * 5 + 2) (.int .u64 (wd P 1 : Nat))).setIfInBounds (1 + l.length * 5 + 3) (.int .u64 (wd P 2 : Nat))).setIfInBounds (1 + l.length * 5 + 4) (.int .u64 (wd P 3 : Nat))).setIfInBounds 0 (.int .i64 ((l.length : Int) + 1)) = patV (l ++ [(m, P)]) := by
  apply Array.ext_getElem?
  intro i
  simp only [Array.getElem?_setIfInBounds, Array.size_setIfInBounds, patV_size]
  by_cases hi : i < 321
  · rw [patV_get _ _ hi, patV_get _ _ hi, patC_snoc]
    by_cases h0 : i = 0
    · subst h0
      simp
    by_cases h1 : (i - 1) / 5 = l.length
    · have hq : i = 1 + l.length * 5 ∨ i = 1 + l.length * 5 + 1 ∨ i = 1 + l.length * 5 + 2 ∨ i = 1 + l.length * 5 + 3 ∨ i = 1 + l.length * 5 + 4 := by omega
      rcases hq with h | h | h | h | h
      · have e1 : (i - 1) % 5 = 0 := by omega
        rw [if_neg (by omega), if_neg (by omega), if_neg (by omega), if_neg (by omega), if_neg (by omega), if_pos (by omega), if_pos (by omega), if_neg h0, if_pos h1, e1]; rfl
      · have e1 : (i - 1) % 5 = 1 := by omega
        rw [if_neg (by omega), if_neg (by omega), if_neg (by omega), if_neg (by omega), if_pos (by omega), if_pos (by omega), if_neg h0, if_pos h1, e1]; rfl
      · have e1 : (i - 1) % 5 = 2 := by omega
        rw [if_neg (by omega), if_neg (by omega), if_neg (by omega), if_pos (by omega), if_pos (by omega), if_neg h0, if_pos h1, e1]; rfl
      · have e1 : (i - 1) % 5 = 3 := by omega
        rw [if_neg (by omega), if_neg (by omega), if_pos (by omega), if_pos (by omega), if_neg h0, if_pos h1, e1]; rfl
      · have e1 : (i - 1) % 5 = 4 := by omega
        rw [if_neg (by omega), if_pos (by omega), if_pos (by omega), if_neg h0, if_pos h1, e1]; rfl
    · rw [if_neg (by omega), if_neg (by omega), if_neg (by omega), if_neg (by omega), if_neg (by omega), if_neg (by omega), if_neg h0, if_neg h1]
  · have e : ∀ l' : List GPart, (patV l')[i]? = none := fun l' => Array.getElem?_eq_none (by rw [patV_size]; omega)
    rw [e, e]
    rw [if_neg (by omega), if_neg (by omega), if_neg (by omega), if_neg (by omega), if_neg (by omega), if_neg (by omega)]

theorem PMine.put {w wr : World} {l : List GPart} (h : PMine w wr l) (m : Bool) (P : Nat → Bool) (hl : l.length < 64) :
    PMine w ((((((wr.setCell ⟨w.heap.size + 1, 1 + l.length * 5, none⟩ (.bool m)).setCell ⟨w.heap.size + 1, 1 + l.length * 5 + 1, none⟩ (.int .u64 (wd P 0 : Nat))).setCell ⟨w.heap.size + 1, 1 + l.length * 5 + 2, none⟩ (.int .u64 (wd P 1 : Nat))).setCell ⟨w.heap.size + 1, 1 + l.length * 5 + 3, none⟩ (.int .u64 (wd P 2 : Nat))).setCell ⟨w.heap.size + 1, 1 + l.length * 5 + 4, none⟩ (.int .u64 (wd P 3 : Nat))).setCell ⟨w.heap.size + 1, 0, none⟩ (.int .i64 ((l.length : Int) + 1))) (l ++ [(m, P)]) := by
  refine ⟨(((((h.below.setCell (by simp) _).setCell (by simp) _).setCell (by simp) _).setCell (by simp) _).setCell (by simp) _).setCell (by simp) _, by simpa [World.setCell] using h.size, ?_, ?_⟩
  · rw [heap_setCell_other _ _ _ _ (by simp), heap_setCell_other _ _ _ _ (by simp), heap_setCell_other _ _ _ _ (by simp), heap_setCell_other _ _ _ _ (by simp), heap_setCell_other _ _ _ _ (by simp), heap_setCell_other _ _ _ _ (by simp)]
    exact h.out
  · have e1 := heap_setCell_same wr (w.heap.size + 1) (1 + l.length * 5) _ _ (.bool m) h.pat
    have e2 := heap_setCell_same _ (w.heap.size + 1) (1 + l.length * 5 + 1) _ _ (.int .u64 (wd P 0 : Nat)) e1
    have e3 := heap_setCell_same _ (w.heap.size + 1) (1 + l.length * 5 + 2) _ _ (.int .u64 (wd P 1 : Nat)) e2
    have e4 := heap_setCell_same _ (w.heap.size + 1) (1 + l.length * 5 + 3) _ _ (.int .u64 (wd P 2 : Nat)) e3
    have e5 := heap_setCell_same _ (w.heap.size + 1) (1 + l.length * 5 + 4) _ _ (.int .u64 (wd P 3 : Nat)) e4
    have e6 := heap_setCell_same _ (w.heap.size + 1) 0 _ _ (.int .i64 ((l.length : Int) + 1)) e5
    rw [patV_snoc l m P hl] at e6
    exact e6
end Go.Proofs.Ytmdlefagkfkenab
