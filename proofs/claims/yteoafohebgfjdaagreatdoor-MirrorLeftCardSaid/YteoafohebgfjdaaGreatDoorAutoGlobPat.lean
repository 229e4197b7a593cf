/-
  Texts that belong together: GlobSets, GlobMine, GlobPat.
-/
import Derived.Test.YteoafohebgfjdaaGreatDoorAutoGlobLeaf
import Derived.RegionCalls
import Derived.Deep.RegionWith
import Derived.Deep.RegionHeld3
import Derived.Deep.DeepCutAuto
import Derived.Deep.LoopGhost
import Derived.Deep.MidRow
import Derived.KernelRfl
/-
  The sets that package glob has by name: all bytes, and all but the slash.
-/
namespace Go.Proofs.YteoafohebgfjdaaGreatDoor
open Go.RowKit
attribute [local go_sem] World.setCell_drewN' World.alloc_drewN'

theorem bcell {W w1 : World} (hb : Below W.heap.size W w1) : (∀ b o, b < W.heap.size → w1.cell? ⟨b, o, none⟩ = W.cell? ⟨b, o, none⟩) ∧ (∀ b o, b < W.heap.size → w1.frozen? ⟨b, o, none⟩ = W.frozen? ⟨b, o, none⟩) :=
  ⟨fun b o h => hb.cell (p := ⟨b, o, none⟩) h, fun b o h => hb.frozen (p := ⟨b, o, none⟩) h⟩

set_option maxHeartbeats 400000 in
theorem all_any (w : World) :
    Calls Tryz.prog 132 #[] w fun e w' => e = .returned (.agg (setV (spanP 0 256))) ∧ Below w.heap.size w w' := by
  go_enter Tryz.func132, Tryz.ntmps132
  go_wp2_with fail
  refine (span_any 0 255 _ (by omega) (by omega)).mono ?_
  rintro e w' ⟨rfl, hb⟩
  obtain ⟨hc, hf⟩ := bcell hb
  have hz : w.heap.size < w'.heap.size := by have := hb.size; simp at this; omega
  unfold setV
  go_wp2
  refine bodyPost_ret (v := .agg (setV (spanP 0 256))) (by simp [results, Tryz.results132, go_sem, hc]; rfl) rfl ⟨rfl, ?_⟩
  exact ((((((Below.refl _ w).alloc (Nat.le_refl _) _).trans (hb.mono (by simp))).setCell (Nat.le_refl _) _).setCell (Nat.le_refl _) _).setCell (Nat.le_refl _) _).setCell (Nat.le_refl _) _


set_option maxHeartbeats 400000 in
theorem inName_any (w : World) :
    Calls Tryz.prog 133 #[] w fun e w' => e = .returned (.agg (setV inNameP)) ∧ Below w.heap.size w w' := by
  go_enter Tryz.func133, Tryz.ntmps133
  go_wp2_with fail
  refine (all_any _).mono ?_
  rintro e w1 ⟨rfl, hb1⟩
  go_wp2_with fail
  refine (span_any 47 47 _ (by omega) (by omega)).mono ?_
  rintro e w2 ⟨rfl, hb2⟩
  go_wp2_with fail
  refine (without_any _ _ _).mono ?_
  rintro e w3 ⟨rfl, hb3⟩
  have hz1 := hb1.size
  have hz2 := hb2.size
  have hz3 := hb3.size
  have hb : Below (w.alloc (Obj.cells #[Value.int IntKind.u64 0, Value.int IntKind.u64 0, Value.int IntKind.u64 0, Value.int IntKind.u64 0] 132)).heap.size (w.alloc (Obj.cells #[Value.int IntKind.u64 0, Value.int IntKind.u64 0, Value.int IntKind.u64 0, Value.int IntKind.u64 0] 132)) w3 := (hb1.trans (hb2.mono hz1)).trans (hb3.mono (Nat.le_trans hz1 hz2))
  clear hb1 hb2 hb3
  obtain ⟨hc, hf⟩ := bcell hb
  have hz : w.heap.size < w3.heap.size := by simp at hz1; omega
  clear hz1 hz2 hz3
  rw [show setV (fun x => spanP 0 256 x && !spanP 47 (47 + 1) x) = setV inNameP from rfl]
  unfold setV
  go_wp2
  refine bodyPost_ret (v := .agg (setV inNameP)) (by simp [results, Tryz.results133, go_sem, hc]; rfl) rfl ⟨rfl, ?_⟩
  exact ((((((Below.refl _ w).alloc (Nat.le_refl _) _).trans (hb.mono (by simp))).setCell (Nat.le_refl _) _).setCell (Nat.le_refl _) _).setCell (Nat.le_refl _) _).setCell (Nat.le_refl _) _
end Go.Proofs.YteoafohebgfjdaaGreatDoor
/-
  The two blocks that a call of glob.class makes, and what stands in them.
-/
namespace Go.Proofs.YteoafohebgfjdaaGreatDoor
open Go.RowKit
attribute [local go_sem] World.setCell_drewN' World.alloc_drewN'

def partV (m : Bool) (P : Nat → Bool) : Array Value := #[.bool m, .int .u64 (wd P 0 : Nat), .int .u64 (wd P 1 : Nat), .int .u64 (wd P 2 : Nat), .int .u64 (wd P 3 : Nat)]
def part0 : Array Value := #[.bool false, .int .u64 0, .int .u64 0, .int .u64 0, .int .u64 0]
def readV : Option ((Bool × (Nat → Bool)) × Nat) → Value
  | none => .tuple #[.agg part0, .int .i64 0]
  | some (p, n) => .tuple #[.agg (partV p.1 p.2), .int .i64 (n : Nat)]

theorem memB_byte (c : UInt8) : memB (c.toNat : Int) = memb c := by
  unfold memB memb
  have h : ∀ d : UInt8, ((c.toNat : Int) == (d.toNat : Int)) = (c == d) := fun d => by
    rw [Bool.eq_iff_iff, beq_iff_eq, beq_iff_eq, ← UInt8.toNat_inj]
    omega
  have h1 := h 93; have h2 := h 91; have h3 := h 47; have h4 := h 92
  simp only [show ((93 : UInt8).toNat : Int) = 93 from rfl, show ((91 : UInt8).toNat : Int) = 91 from rfl, show ((47 : UInt8).toNat : Int) = 47 from rfl, show ((92 : UInt8).toNat : Int) = 92 from rfl] at h1 h2 h3 h4
  rw [h1, h2, h3, h4]
  simp [Bool.not_or, Bool.and_assoc]

/-- The call's own two blocks: the answer's, still zero, and the set's. -/
structure Mine (w wr : World) (P : Nat → Bool) : Prop where
  below : Below w.heap.size w wr
  size : w.heap.size + 1 < wr.heap.size
  out : wr.heap[w.heap.size]? = some (.cells #[.bool false, .int .u64 0, .int .u64 0, .int .u64 0, .int .u64 0] 134)
  set : wr.heap[w.heap.size + 1]? = some (.cells (setV P) 132)

theorem five' {w w1 : World} (hb : Below w.heap.size w w1) {i0 i1 i2 i3 i4 : Nat} {u0 u1 u2 u3 u4 : Value} : Below w.heap.size w (((((w1.setCell ⟨w.heap.size, i0, none⟩ u0).setCell ⟨w.heap.size, i1, none⟩ u1).setCell ⟨w.heap.size, i2, none⟩ u2).setCell ⟨w.heap.size, i3, none⟩ u3).setCell ⟨w.heap.size, i4, none⟩ u4) :=
  ((((hb.setCell (Nat.le_refl _) _).setCell (Nat.le_refl _) _).setCell (Nat.le_refl _) _).setCell (Nat.le_refl _) _).setCell (Nat.le_refl _) _
def notP (P : Nat → Bool) : Nat → Bool := fun x => spanP 0 256 x && !P x

theorem extract_end (s : ByteArray) (a : Nat) : (s.extract a s.size).data.toList = s.data.toList.drop a := by
  rw [Lib.extract_data, List.take_of_length_le (by simp)]

section
variable {w wr : World} {P : Nat → Bool} (h : Mine w wr P)
include h
theorem Mine.c0 : wr.cell? ⟨w.heap.size + 1, 0, none⟩ = some (.int .u64 (wd P 0 : Nat)) := cell_of_row _ _ _ _ _ _ h.set
theorem Mine.c1 : wr.cell? ⟨w.heap.size + 1, 1, none⟩ = some (.int .u64 (wd P 1 : Nat)) := cell_of_row _ _ _ _ _ _ h.set
theorem Mine.c2 : wr.cell? ⟨w.heap.size + 1, 2, none⟩ = some (.int .u64 (wd P 2 : Nat)) := cell_of_row _ _ _ _ _ _ h.set
theorem Mine.c3 : wr.cell? ⟨w.heap.size + 1, 3, none⟩ = some (.int .u64 (wd P 3 : Nat)) := cell_of_row _ _ _ _ _ _ h.set
theorem Mine.o0 : wr.cell? ⟨w.heap.size, 0, none⟩ = some (.bool false) := cell_of_row _ _ _ _ _ _ h.out
theorem Mine.o1 : wr.cell? ⟨w.heap.size, 1, none⟩ = some (.int .u64 0) := cell_of_row _ _ _ _ _ _ h.out
theorem Mine.o2 : wr.cell? ⟨w.heap.size, 2, none⟩ = some (.int .u64 0) := cell_of_row _ _ _ _ _ _ h.out
theorem Mine.o3 : wr.cell? ⟨w.heap.size, 3, none⟩ = some (.int .u64 0) := cell_of_row _ _ _ _ _ _ h.out
theorem Mine.o4 : wr.cell? ⟨w.heap.size, 4, none⟩ = some (.int .u64 0) := cell_of_row _ _ _ _ _ _ h.out
theorem Mine.fs (j : Nat) : wr.frozen? ⟨w.heap.size + 1, j, none⟩ = false := frozen_of_row _ _ _ _ _ h.set
theorem Mine.fo (j : Nat) : wr.frozen? ⟨w.heap.size, j, none⟩ = false := frozen_of_row _ _ _ _ _ h.out
end

theorem Mine.drew {w wr : World} {P : Nat → Bool} (h : Mine w wr P) : Mine w wr.drew P := ⟨below_drew h.below, h.size, h.out, h.set⟩
theorem Mine.drewN {w wr : World} {P : Nat → Bool} (h : Mine w wr P) (n : Nat) : Mine w (wr.drewN n) P := ⟨below_drewN h.below n, h.size, h.out, h.set⟩
theorem Mine.after {w wr w1 : World} {P : Nat → Bool} (h : Mine w wr P) (hb : Below wr.heap.size wr w1) : Mine w w1 P :=
  ⟨h.below.trans (hb.mono h.below.size), Nat.lt_of_lt_of_le h.size hb.size, (hb.block _ (by have := h.size; omega)).trans h.out, (hb.block _ h.size).trans h.set⟩

theorem Mine.afterN {w wr w1 : World} {P : Nat → Bool} {n : Nat} (h : Mine w wr P) (hb : Below (wr.drewN n).heap.size (wr.drewN n) w1) : Mine w w1 P := (h.drewN n).after hb

/-- The set's block written anew. -/
theorem Mine.put {w wr : World} {P : Nat → Bool} (h : Mine w wr P) (Q : Nat → Bool) : Mine w ((((wr.setCell ⟨w.heap.size + 1, 0, none⟩ (.int .u64 (wd Q 0 : Nat))).setCell ⟨w.heap.size + 1, 1, none⟩ (.int .u64 (wd Q 1 : Nat))).setCell ⟨w.heap.size + 1, 2, none⟩ (.int .u64 (wd Q 2 : Nat))).setCell ⟨w.heap.size + 1, 3, none⟩ (.int .u64 (wd Q 3 : Nat))) Q := by
  refine ⟨(((h.below.setCell (by simp) _).setCell (by simp) _).setCell (by simp) _).setCell (by simp) _, by simpa [World.setCell] using h.size, ?_, ?_⟩
  · rw [heap_setCell_other _ _ _ _ (by simp), heap_setCell_other _ _ _ _ (by simp), heap_setCell_other _ _ _ _ (by simp), heap_setCell_other _ _ _ _ (by simp)]
    exact h.out
  · have e1 := heap_setCell_same wr (w.heap.size + 1) 0 _ _ (.int .u64 (wd Q 0 : Nat)) h.set
    have e2 := heap_setCell_same _ (w.heap.size + 1) 1 _ _ (.int .u64 (wd Q 1 : Nat)) e1
    have e3 := heap_setCell_same _ (w.heap.size + 1) 2 _ _ (.int .u64 (wd Q 2 : Nat)) e2
    have e4 := heap_setCell_same _ (w.heap.size + 1) 3 _ _ (.int .u64 (wd Q 3 : Nat)) e3
    exact e4

theorem Mine.start (w : World) : Mine w ((w.alloc (Obj.cells #[Value.bool false, Value.int IntKind.u64 0, Value.int IntKind.u64 0, Value.int IntKind.u64 0, Value.int IntKind.u64 0] 134)).alloc
    (Obj.cells #[Value.int IntKind.u64 0, Value.int IntKind.u64 0, Value.int IntKind.u64 0, Value.int IntKind.u64 0] 132)) emptyP :=
  ⟨((Below.refl _ _).alloc (Nat.le_refl _) _).alloc (by simp) _, by simp, heap_alloc2_old _ _ _, by rw [← setV_empty (P := emptyP) (fun _ => rfl)]; exact heap_alloc2_new _ _ _⟩

end Go.Proofs.YteoafohebgfjdaaGreatDoor
/-
  A pattern as it lies in memory: how many parts, and 64 parts of five cells each.
-/
namespace Go.Proofs.YteoafohebgfjdaaGreatDoor
open Go.RowKit

abbrev GPart := Bool × (Nat → Bool)

/-- The i-th cell of a list of parts, zero behind them. -/
def partC (l : List GPart) (i : Nat) : Value :=
  match l[i / 5]? with
  | some p => (partV p.1 p.2)[i % 5]?.getD undef
  | none => part0[i % 5]?.getD undef

/-- A pattern's cells. -/
def patC (l : List GPart) (i : Nat) : Value := if i = 0 then .int .i64 (l.length : Nat) else partC l (i - 1)
def patV (l : List GPart) : Array Value := Array.ofFn (n := 321) fun i => patC l i

theorem patV_size (l : List GPart) : (patV l).size = 321 := by simp [patV]
theorem patV_get (l : List GPart) (i : Nat) (h : i < 321) : (patV l)[i]? = some (patC l i) := by
  unfold patV
  rw [Array.getElem?_ofFn, dif_pos h]

theorem zero_pat (w : World) : Sem.run Tryz.prog (zeroValue 137) w = .ok (.agg (patV [])) w := by kernel_rfl
theorem build_pat (w : World) : Sem.run Tryz.prog (Instr.build 137 #[]) w = .ok (.agg (patV [])) w := by kernel_rfl
theorem info_pat : (Tryz.prog.info? 137).map (·.size) = some 321 := by kernel_rfl

/-- The call's own two blocks: the answer's, still zero, and the pattern's. -/
structure PMine (w wr : World) (l : List GPart) : Prop where
  below : Below w.heap.size w wr
  size : w.heap.size + 1 < wr.heap.size
  out : wr.heap[w.heap.size]? = some (.cells (patV []) 137 (0, 0))
  pat : wr.heap[w.heap.size + 1]? = some (.cells (patV l) 137 (0, 0))

theorem PMine.start (w : World) : PMine w ((w.alloc (Obj.cells (patV []) 137)).alloc (Obj.cells (patV []) 137)) [] :=
  ⟨((Below.refl _ _).alloc (Nat.le_refl _) _).alloc (by simp) _, by simp, heap_alloc2_old _ _ _, heap_alloc2_new _ _ _⟩

theorem PMine.after {w wr w1 : World} {l : List GPart} (h : PMine w wr l) (hb : Below wr.heap.size wr w1) : PMine w w1 l :=
  ⟨h.below.trans (hb.mono h.below.size), Nat.lt_of_lt_of_le h.size hb.size, (hb.block _ (by have := h.size; omega)).trans h.out, (hb.block _ h.size).trans h.pat⟩

theorem PMine.alloc {w wr : World} {l : List GPart} (h : PMine w wr l) (o : Obj) : PMine w (wr.alloc o) l := h.after ((Below.refl _ _).alloc (Nat.le_refl _) o)

theorem partV_one (m : Bool) (P : Nat → Bool) (j : Nat) (hj : j < 5) : ((partV m P)[j]?.getD undef).oneCell' = true := by
  rcases j with _ | _ | _ | _ | _ | j
  · rfl
  · rfl
  · rfl
  · rfl
  · rfl
  · omega
theorem part0_one (j : Nat) (hj : j < 5) : (part0[j]?.getD undef).oneCell' = true := by
  rcases j with _ | _ | _ | _ | _ | j
  · rfl
  · rfl
  · rfl
  · rfl
  · rfl
  · omega
theorem patC_one (l : List GPart) (i : Nat) : (patC l i).oneCell' = true := by
  unfold patC partC
  split
  · rfl
  · split
    · exact partV_one _ _ _ (Nat.mod_lt _ (by omega))
    · exact part0_one _ (Nat.mod_lt _ (by omega))
theorem patV_one (l : List GPart) : ∀ v ∈ (patV l).toList, v.oneCell' = true := by
  intro v hv
  unfold patV at hv
  rw [Array.mem_toList_iff, Array.mem_ofFn] at hv
  obtain ⟨i, rfl⟩ := hv
  exact patC_one l i

/-- A whole pattern stored over another one. -/
theorem store_pat (l l' : List GPart) (g : Nat) (W : World) (h : W.heap[g]? = some (.cells (patV l) 137 (0, 0))) :
    Sem.run Tryz.prog (storeCells ⟨g, 0, none⟩ (patV l').toList) W = .ok () (W.setRow g (patV l')) := by
  have e := run_storeCells_from (P := Tryz.prog) g 137 (patV l').toList 0 (patV l) W h (by simp [patV_size]) (patV_one l')
  simpa using e

theorem below_setRow {B g : Nat} {a w : World} (h : Below B a w) (hg : B ≤ g) (cs : Array Value) : Below B a (w.setRow g cs) :=
  h.trans ⟨rfl, rfl, rfl, by simp, fun k hk => setRow_other _ _ _ _ (by omega)⟩

theorem PMine.n0 {w wr : World} {l : List GPart} (h : PMine w wr l) : wr.cell? ⟨w.heap.size + 1, 0, none⟩ = some (.int .i64 (l.length : Nat)) := by
  rw [cell_of_row _ _ _ _ _ _ h.pat, patV_get _ _ (by omega)]
  rfl
theorem PMine.cx {w wr : World} {l : List GPart} (h : PMine w wr l) (i : Nat) (hi : i < 321) : wr.cell? ⟨w.heap.size + 1, i, none⟩ = some (patC l i) := by
  rw [cell_of_row _ _ _ _ _ _ h.pat, patV_get _ _ hi]
theorem PMine.fz {w wr : World} {l : List GPart} (h : PMine w wr l) (i : Nat) : wr.frozen? ⟨w.heap.size + 1, i, none⟩ = false := frozen_of_row _ _ _ _ _ h.pat

theorem patC_snoc (l : List GPart) (p : GPart) (i : Nat) : patC (l ++ [p]) i = if i = 0 then .int .i64 ((l.length + 1 : Nat) : Int) else if (i - 1) / 5 = l.length then (partV p.1 p.2)[(i - 1) % 5]?.getD undef else patC l i := by
  unfold patC partC
  by_cases h0 : i = 0
  · simp [h0]
  · simp only [h0, if_false]
    by_cases h1 : (i - 1) / 5 = l.length
    · simp [h1]
    · simp only [h1, if_false]
      by_cases h2 : (i - 1) / 5 < l.length
      · rw [List.getElem?_append_left h2]
      · rw [List.getElem?_append_right (by omega), List.getElem?_eq_none (l := l) (by omega), List.getElem?_eq_none (by simp; omega)]

theorem patV_snoc (l : List GPart) (m : Bool) (P : Nat → Bool) (hl : l.length < 64) :
    ((((((patV l).setIfInBounds (1 + l.length * 5) (.bool m)).setIfInBounds (1 + l.length * 5 + 1) (.int .u64 (wd P 0 : Nat))).setIfInBounds (1 + l.length * 5 + 2) (.int .u64 (wd P 1 : Nat))).setIfInBounds (1 + l.length * 5 + 3) (.int .u64 (wd P 2 : Nat))).setIfInBounds (1 + l.length * 5 + 4) (.int .u64 (wd P 3 : Nat))).setIfInBounds 0 (.int .i64 ((l.length : Int) + 1)) = patV (l ++ [(m, P)]) := by
  apply Array.ext_getElem?
  intro i
  simp only [Array.getElem?_setIfInBounds, Array.size_setIfInBounds, patV_size]
  by_cases hi : i < 321
  · rw [patV_get _ _ hi, patV_get _ _ hi, patC_snoc]
    by_cases h0 : i = 0
    · subst h0
      simp
    by_cases h1 : (i - 1) / 5 = l.length
    · have hq : i = 1 + l.length * 5 ∨ i = 1 + l.length * 5 + 1 ∨ i = 1 + l.length * 5 + 2 ∨ i = 1 + l.length * 5 + 3 ∨ i = 1 + l.length * 5 + 4 := by omega
      rcases hq with h | h | h | h | h
      · have e1 : (i - 1) % 5 = 0 := by omega
        rw [if_neg (by omega), if_neg (by omega), if_neg (by omega), if_neg (by omega), if_neg (by omega), if_pos (by omega), if_pos (by omega), if_neg h0, if_pos h1, e1]; rfl
      · have e1 : (i - 1) % 5 = 1 := by omega
        rw [if_neg (by omega), if_neg (by omega), if_neg (by omega), if_neg (by omega), if_pos (by omega), if_pos (by omega), if_neg h0, if_pos h1, e1]; rfl
      · have e1 : (i - 1) % 5 = 2 := by omega
        rw [if_neg (by omega), if_neg (by omega), if_neg (by omega), if_pos (by omega), if_pos (by omega), if_neg h0, if_pos h1, e1]; rfl
      · have e1 : (i - 1) % 5 = 3 := by omega
        rw [if_neg (by omega), if_neg (by omega), if_pos (by omega), if_pos (by omega), if_neg h0, if_pos h1, e1]; rfl
      · have e1 : (i - 1) % 5 = 4 := by omega
        rw [if_neg (by omega), if_pos (by omega), if_pos (by omega), if_neg h0, if_pos h1, e1]; rfl
    · rw [if_neg (by omega), if_neg (by omega), if_neg (by omega), if_neg (by omega), if_neg (by omega), if_neg (by omega), if_neg h0, if_neg h1]
  · have e : ∀ l' : List GPart, (patV l')[i]? = none := fun l' => Array.getElem?_eq_none (by rw [patV_size]; omega)
    rw [e, e]
    rw [if_neg (by omega), if_neg (by omega), if_neg (by omega), if_neg (by omega), if_neg (by omega), if_neg (by omega)]

theorem PMine.put {w wr : World} {l : List GPart} (h : PMine w wr l) (m : Bool) (P : Nat → Bool) (hl : l.length < 64) :
    PMine w ((((((wr.setCell ⟨w.heap.size + 1, 1 + l.length * 5, none⟩ (.bool m)).setCell ⟨w.heap.size + 1, 1 + l.length * 5 + 1, none⟩ (.int .u64 (wd P 0 : Nat))).setCell ⟨w.heap.size + 1, 1 + l.length * 5 + 2, none⟩ (.int .u64 (wd P 1 : Nat))).setCell ⟨w.heap.size + 1, 1 + l.length * 5 + 3, none⟩ (.int .u64 (wd P 2 : Nat))).setCell ⟨w.heap.size + 1, 1 + l.length * 5 + 4, none⟩ (.int .u64 (wd P 3 : Nat))).setCell ⟨w.heap.size + 1, 0, none⟩ (.int .i64 ((l.length : Int) + 1))) (l ++ [(m, P)]) := by
  refine ⟨(((((h.below.setCell (by simp) _).setCell (by simp) _).setCell (by simp) _).setCell (by simp) _).setCell (by simp) _).setCell (by simp) _, by simpa [World.setCell] using h.size, ?_, ?_⟩
  · rw [heap_setCell_other _ _ _ _ (by simp), heap_setCell_other _ _ _ _ (by simp), heap_setCell_other _ _ _ _ (by simp), heap_setCell_other _ _ _ _ (by simp), heap_setCell_other _ _ _ _ (by simp), heap_setCell_other _ _ _ _ (by simp)]
    exact h.out
  · have e1 := heap_setCell_same wr (w.heap.size + 1) (1 + l.length * 5) _ _ (.bool m) h.pat
    have e2 := heap_setCell_same _ (w.heap.size + 1) (1 + l.length * 5 + 1) _ _ (.int .u64 (wd P 0 : Nat)) e1
    have e3 := heap_setCell_same _ (w.heap.size + 1) (1 + l.length * 5 + 2) _ _ (.int .u64 (wd P 1 : Nat)) e2
    have e4 := heap_setCell_same _ (w.heap.size + 1) (1 + l.length * 5 + 3) _ _ (.int .u64 (wd P 2 : Nat)) e3
    have e5 := heap_setCell_same _ (w.heap.size + 1) (1 + l.length * 5 + 4) _ _ (.int .u64 (wd P 3 : Nat)) e4
    have e6 := heap_setCell_same _ (w.heap.size + 1) 0 _ _ (.int .i64 ((l.length : Int) + 1)) e5
    rw [patV_snoc l m P hl] at e6
    exact e6
end Go.Proofs.YteoafohebgfjdaaGreatDoor
