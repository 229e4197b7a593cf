/-
  The page's example of layer 18.
-/
import Derived.Test.YtdkdnfcmlnfkcaaPtApply
import Derived.Test.YtdkdnfcmlnfkcaaConvMark
namespace Go.Proofs.Ytdkdnfcmlnfkcaa
open Go.RowKit
set_option maxRecDepth 100000

/-- Tokens that have just been laid. -/
theorem RdT.laid (W : World) (l : List Tk) (t : TypeId) : RdT (W.alloc (.cells (cellsT l).toArray t)) (W.alloc (.cells (cellsT l).toArray t)).heap.size (some ⟨W.heap.size, 0, none⟩) l := fun k x hx => by
  obtain ⟨q1, q2, q3⟩ := cellsT_get l k x hx
  have hrow := World.alloc_heap_new W (Obj.cells (cellsT l).toArray t)
  refine ⟨_, rfl, by simp, ?_⟩
  rw [addT_off]
  refine ⟨?_, ?_, ?_⟩
  · rw [cell_of_row _ _ _ _ _ _ hrow, List.getElem?_toArray]; exact q1
  · rw [cell_of_row _ _ _ _ _ _ hrow, List.getElem?_toArray]; exact q2
  · rw [cell_of_row _ _ _ _ _ _ hrow, List.getElem?_toArray]; exact q3
def eightP : List UInt8 := [97, 98, 99, 100, 101, 102, 103, 104]
def twoP : List Tk := [⟨1, 1, ⟨#[]⟩⟩, ⟨0, 0, ⟨#[120]⟩⟩]
theorem eight_two : applyE eightP 4 twoP = 0 ∧ applyL eightP 4 twoP = [101, 102, 103, 104, 120] := ⟨by kernel_rfl, by kernel_rfl⟩

set_option maxHeartbeats 4000000 in
theorem ptAwake_any (w : World) : Calls Try.prog 57 #[] w fun e w' => e = .returned (.bool true) ∧ Below w.heap.size w w' := by
  obtain ⟨w1, hw1⟩ : ∃ w1, w1 = w.alloc (.cells (eightP.map byteV).toArray 5) := ⟨_, rfl⟩
  have hn1 := World.alloc_heap_new w (Obj.cells (eightP.map byteV).toArray 5)
  have hB1 := (Below.refl _ w).alloc (Nat.le_refl _) (Obj.cells (eightP.map byteV).toArray 5)
  rw [← hw1] at hn1 hB1
  obtain ⟨w2, hcv, hB2, hrow, hz2⟩ := conv_self w1 w.heap.size 8 _ _ hn1
  have HB2 := hide (hB1.trans hB2)
  have hR := row_bytes hrow
  rw [show (eightP.map byteV).toArray = #[.int .u8 97, .int .u8 98, .int .u8 99, .int .u8 100, .int .u8 101, .int .u8 102, .int .u8 103, .int .u8 104] from rfl] at hw1
  have hB3 := (Below.refl w2.heap.size w2).alloc (Nat.le_refl _) (Obj.cells (cellsT twoP).toArray 71)
  have HAp := hide (apply_any (some ⟨w.heap.size, 0, none⟩) eightP 8 4 (some ⟨w2.heap.size, 0, none⟩) twoP 2 _ (hR.step hB3) ⟨by decide, fun e => by cases e⟩ (by decide) (RdT.laid w2 twoP 71) (by decide))
  rw [eight_two.1, eight_two.2] at HAp
  have HB3 := hide (HB2.out.trans (hB3.mono HB2.out.size))
  clear hn1 hB1 hB2 hrow hz2 hR hB3
  go_enter Try.func57, Try.ntmps57
  rw [hw1] at hcv
  clear hw1
  go_wp2_with fail
  refine HAp.out.mono ?_
  rintro e w4 ⟨D, d, rfl, hcd, hRd, hb4⟩
  have hcv4 : (convert 22 9 (.slice D 5 d)).run Try.prog w4 = .ok (.string ⟨#[101, 102, 103, 104, 120]⟩) w4 := conv_any hRd d
  have HB4 := hide (HB3.out.trans (hb4.mono HB3.out.size))
  clear hcd hRd hb4 hcv HAp HB2
  go_wp2_with fail
  exact bodyPost_ret (results_tmp rfl _ _ _) rfl ⟨rfl, HB4.out⟩
end Go.Proofs.Ytdkdnfcmlnfkcaa
