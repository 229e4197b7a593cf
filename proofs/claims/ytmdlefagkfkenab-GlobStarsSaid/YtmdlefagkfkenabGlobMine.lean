/-
  The two blocks that a call of glob.class makes, and what stands in them.
-/
import Derived.Test.YtmdlefagkfkenabGlobSpec
import Derived.Test.YtmdlefagkfkenabGlobSets
import Derived.RegionCalls
import Derived.Deep.RegionWith
import Derived.Deep.RegionHeld3
import Derived.Deep.DeepCutAuto
import Derived.Deep.LoopGhost
namespace Go.Proofs.Ytmdlefagkfkenab
open Go.RowKit
attribute [local go_sem] World.setCell_drewN' World.alloc_drewN'

def partV (m : Bool) (P : Nat → Bool) : Array Value := #[.bool m, .int .u64 (wd P 0 : Nat), .int .u64 (wd P 1 : Nat), .int .u64 (wd P 2 : Nat), .int .u64 (wd P 3 : Nat)]
def part0 : Array Value := #[.bool false, .int .u64 0, .int .u64 0, .int .u64 0, .int .u64 0]
def readV : Option ((Bool × (Nat → Bool)) × Nat) → Value
  | none => .tuple #[.agg part0, .int .i64 0]
  | some (p, n) => .tuple #[.agg (partV p.1 p.2), .int .i64 (n : Nat)]

theorem memB_byte (c : UInt8) : memB (c.toNat : Int) = memb c := by
  unfold memB memb
  have h : ∀ d : UInt8, ((c.toNat : Int) == (d.toNat : Int)) = (c == d) := fun d => by
    rw [Bool.eq_iff_iff, beq_iff_eq, beq_iff_eq, ← UInt8.toNat_inj]
    omega
  have h1 := h 93; have h2 := h 91; have h3 := h 47; have h4 := h 92
  simp only [show ((93 : UInt8).toNat : Int) = 93 from rfl, show ((91 : UInt8).toNat : Int) = 91 from rfl, show ((47 : UInt8).toNat : Int) = 47 from rfl, show ((92 : UInt8).toNat : Int) = 92 from rfl] at h1 h2 h3 h4
  rw [h1, h2, h3, h4]
  simp [Bool.not_or, Bool.and_assoc]

/-- The call's own two blocks: the answer's, still zero, and the set's. -/
structure Mine (w wr : World) (P : Nat → Bool) : Prop where
  below : Below w.heap.size w wr
  size : w.heap.size + 1 < wr.heap.size
  out : wr.heap[w.heap.size]? = some (.cells #[.bool false, .int .u64 0, .int .u64 0, .int .u64 0, .int .u64 0] 31)
  set : wr.heap[w.heap.size + 1]? = some (.cells (setV P) 29)

theorem five' {w w1 : World} (hb : Below w.heap.size w w1) {i0 i1 i2 i3 i4 : Nat} {u0 u1 u2 u3 u4 : Value} : Below w.heap.size w (((((w1.setCell ⟨w.heap.size, i0, none⟩ u0).setCell ⟨w.heap.size, i1, none⟩ u1).setCell ⟨w.heap.size, i2, none⟩ u2).setCell ⟨w.heap.size, i3, none⟩ u3).setCell ⟨w.heap.size, i4, none⟩ u4) :=
  ((((hb.setCell (Nat.le_refl _) _).setCell (Nat.le_refl _) _).setCell (Nat.le_refl _) _).setCell (Nat.le_refl _) _).setCell (Nat.le_refl _) _
def notP (P : Nat → Bool) : Nat → Bool := fun x => spanP 0 256 x && !P x

theorem extract_end (s : ByteArray) (a : Nat) : (s.extract a s.size).data.toList = s.data.toList.drop a := by
  rw [Lib.extract_data, List.take_of_length_le (by simp)]

section
variable {w wr : World} {P : Nat → Bool} (h : Mine w wr P)
include h
theorem Mine.c0 : wr.cell? ⟨w.heap.size + 1, 0, none⟩ = some (.int .u64 (wd P 0 : Nat)) := cell_of_row _ _ _ _ _ _ h.set
theorem Mine.c1 : wr.cell? ⟨w.heap.size + 1, 1, none⟩ = some (.int .u64 (wd P 1 : Nat)) := cell_of_row _ _ _ _ _ _ h.set
theorem Mine.c2 : wr.cell? ⟨w.heap.size + 1, 2, none⟩ = some (.int .u64 (wd P 2 : Nat)) := cell_of_row _ _ _ _ _ _ h.set
theorem Mine.c3 : wr.cell? ⟨w.heap.size + 1, 3, none⟩ = some (.int .u64 (wd P 3 : Nat)) := cell_of_row _ _ _ _ _ _ h.set
theorem Mine.o0 : wr.cell? ⟨w.heap.size, 0, none⟩ = some (.bool false) := cell_of_row _ _ _ _ _ _ h.out
theorem Mine.o1 : wr.cell? ⟨w.heap.size, 1, none⟩ = some (.int .u64 0) := cell_of_row _ _ _ _ _ _ h.out
theorem Mine.o2 : wr.cell? ⟨w.heap.size, 2, none⟩ = some (.int .u64 0) := cell_of_row _ _ _ _ _ _ h.out
theorem Mine.o3 : wr.cell? ⟨w.heap.size, 3, none⟩ = some (.int .u64 0) := cell_of_row _ _ _ _ _ _ h.out
theorem Mine.o4 : wr.cell? ⟨w.heap.size, 4, none⟩ = some (.int .u64 0) := cell_of_row _ _ _ _ _ _ h.out
theorem Mine.fs (j : Nat) : wr.frozen? ⟨w.heap.size + 1, j, none⟩ = false := frozen_of_row _ _ _ _ _ h.set
theorem Mine.fo (j : Nat) : wr.frozen? ⟨w.heap.size, j, none⟩ = false := frozen_of_row _ _ _ _ _ h.out
end

theorem Mine.drew {w wr : World} {P : Nat → Bool} (h : Mine w wr P) : Mine w wr.drew P := ⟨below_drew h.below, h.size, h.out, h.set⟩
theorem Mine.drewN {w wr : World} {P : Nat → Bool} (h : Mine w wr P) (n : Nat) : Mine w (wr.drewN n) P := ⟨below_drewN h.below n, h.size, h.out, h.set⟩
theorem Mine.after {w wr w1 : World} {P : Nat → Bool} (h : Mine w wr P) (hb : Below wr.heap.size wr w1) : Mine w w1 P :=
  ⟨h.below.trans (hb.mono h.below.size), Nat.lt_of_lt_of_le h.size hb.size, (hb.block _ (by have := h.size; omega)).trans h.out, (hb.block _ h.size).trans h.set⟩

theorem Mine.afterN {w wr w1 : World} {P : Nat → Bool} {n : Nat} (h : Mine w wr P) (hb : Below (wr.drewN n).heap.size (wr.drewN n) w1) : Mine w w1 P := (h.drewN n).after hb

/-- The set's block written anew. -/
theorem Mine.put {w wr : World} {P : Nat → Bool} (h : Mine w wr P) (Q : Nat → Bool) : Mine w ((((wr.setCell ⟨w.heap.size + 1, 0, none⟩ (.int .u64 (wd Q 0 : Nat))).setCell ⟨w.heap.size + 1, 1, none⟩ (.int .u64 (wd Q 1 : Nat))).setCell ⟨w.heap.size + 1, 2, none⟩ (.int .u64 (wd Q 2 : Nat))).setCell ⟨w.heap.size + 1, 3, none⟩ (.int .u64 (wd Q 3 : Nat))) Q := by
  refine ⟨(((h.below.setCell (by simp) _).setCell (by simp) _).setCell (by simp) _).setCell (by simp) _, by simpa [World.setCell] using h.size, ?_, ?_⟩
  · rw [heap_setCell_other _ _ _ _ (by simp), heap_setCell_other _ _ _ _ (by simp), heap_setCell_other _ _ _ _ (by simp), heap_setCell_other _ _ _ _ (by simp)]
    exact h.out
  · have e1 := heap_setCell_same wr (w.heap.size + 1) 0 _ _ (.int .u64 (wd Q 0 : Nat)) h.set
    have e2 := heap_setCell_same _ (w.heap.size + 1) 1 _ _ (.int .u64 (wd Q 1 : Nat)) e1
    have e3 := heap_setCell_same _ (w.heap.size + 1) 2 _ _ (.int .u64 (wd Q 2 : Nat)) e2
    have e4 := heap_setCell_same _ (w.heap.size + 1) 3 _ _ (.int .u64 (wd Q 3 : Nat)) e3
    exact e4

theorem Mine.start (w : World) : Mine w ((w.alloc (Obj.cells #[Value.bool false, Value.int IntKind.u64 0, Value.int IntKind.u64 0, Value.int IntKind.u64 0, Value.int IntKind.u64 0] 31)).alloc
    (Obj.cells #[Value.int IntKind.u64 0, Value.int IntKind.u64 0, Value.int IntKind.u64 0, Value.int IntKind.u64 0] 29)) emptyP :=
  ⟨((Below.refl _ _).alloc (Nat.le_refl _) _).alloc (by simp) _, by simp, heap_alloc2_old _ _ _, by rw [← setV_empty (P := emptyP) (fun _ => rfl)]; exact heap_alloc2_new _ _ _⟩

end Go.Proofs.Ytmdlefagkfkenab
