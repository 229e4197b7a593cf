/-
  The sets that package glob has by name: all bytes, and all but the slash.
-/
import Derived.Test.YtmdlefagkfkenabGlobLeaf
namespace Go.Proofs.Ytmdlefagkfkenab
open Go.RowKit
attribute [local go_sem] World.setCell_drewN' World.alloc_drewN'

theorem bcell {W w1 : World} (hb : Below W.heap.size W w1) : (∀ b o, b < W.heap.size → w1.cell? ⟨b, o, none⟩ = W.cell? ⟨b, o, none⟩) ∧ (∀ b o, b < W.heap.size → w1.frozen? ⟨b, o, none⟩ = W.frozen? ⟨b, o, none⟩) :=
  ⟨fun b o h => hb.cell (p := ⟨b, o, none⟩) h, fun b o h => hb.frozen (p := ⟨b, o, none⟩) h⟩

set_option maxHeartbeats 400000 in
theorem all_any (w : World) :
    Calls Try.prog 12 #[] w fun e w' => e = .returned (.agg (setV (spanP 0 256))) ∧ Below w.heap.size w w' := by
  go_enter Try.func12, Try.ntmps12
  go_wp2_with fail
  refine (span_any 0 255 _ (by omega) (by omega)).mono ?_
  rintro e w' ⟨rfl, hb⟩
  obtain ⟨hc, hf⟩ := bcell hb
  have hz : w.heap.size < w'.heap.size := by have := hb.size; simp at this; omega
  unfold setV
  go_wp2
  refine bodyPost_ret (v := .agg (setV (spanP 0 256))) (by simp [results, Try.results12, go_sem, hc]; rfl) rfl ⟨rfl, ?_⟩
  exact ((((((Below.refl _ w).alloc (Nat.le_refl _) _).trans (hb.mono (by simp))).setCell (Nat.le_refl _) _).setCell (Nat.le_refl _) _).setCell (Nat.le_refl _) _).setCell (Nat.le_refl _) _


set_option maxHeartbeats 400000 in
theorem inName_any (w : World) :
    Calls Try.prog 13 #[] w fun e w' => e = .returned (.agg (setV inNameP)) ∧ Below w.heap.size w w' := by
  go_enter Try.func13, Try.ntmps13
  go_wp2_with fail
  refine (all_any _).mono ?_
  rintro e w1 ⟨rfl, hb1⟩
  go_wp2_with fail
  refine (span_any 47 47 _ (by omega) (by omega)).mono ?_
  rintro e w2 ⟨rfl, hb2⟩
  go_wp2_with fail
  refine (without_any _ _ _).mono ?_
  rintro e w3 ⟨rfl, hb3⟩
  have hz1 := hb1.size
  have hz2 := hb2.size
  have hz3 := hb3.size
  have hb : Below (w.alloc (Obj.cells #[Value.int IntKind.u64 0, Value.int IntKind.u64 0, Value.int IntKind.u64 0, Value.int IntKind.u64 0] 29)).heap.size (w.alloc (Obj.cells #[Value.int IntKind.u64 0, Value.int IntKind.u64 0, Value.int IntKind.u64 0, Value.int IntKind.u64 0] 29)) w3 := (hb1.trans (hb2.mono hz1)).trans (hb3.mono (Nat.le_trans hz1 hz2))
  clear hb1 hb2 hb3
  obtain ⟨hc, hf⟩ := bcell hb
  have hz : w.heap.size < w3.heap.size := by simp at hz1; omega
  clear hz1 hz2 hz3
  rw [show setV (fun x => spanP 0 256 x && !spanP 47 (47 + 1) x) = setV inNameP from rfl]
  unfold setV
  go_wp2
  refine bodyPost_ret (v := .agg (setV inNameP)) (by simp [results, Try.results13, go_sem, hc]; rfl) rfl ⟨rfl, ?_⟩
  exact ((((((Below.refl _ w).alloc (Nat.le_refl _) _).trans (hb.mono (by simp))).setCell (Nat.le_refl _) _).setCell (Nat.le_refl _) _).setCell (Nat.le_refl _) _).setCell (Nat.le_refl _) _
end Go.Proofs.Ytmdlefagkfkenab
