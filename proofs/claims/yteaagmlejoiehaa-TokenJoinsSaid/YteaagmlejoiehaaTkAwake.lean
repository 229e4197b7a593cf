/-
  The page's example.
-/
import Derived.Test.YteaagmlejoiehaaTkJoinMath
namespace Go.Proofs.Yteaagmlejoiehaa
open Go.RowKit
set_option maxRecDepth 100000

/-- Tokens that have just been laid. -/
theorem RdT.many (W : World) (l : List Tk) (t : TypeId) : RdT (W.alloc (.cells (cellsT l).toArray t)) (W.alloc (.cells (cellsT l).toArray t)).heap.size (some ⟨W.heap.size, 0, none⟩) l := fun k x hx => by
  obtain ⟨q1, q2, q3⟩ := cellsT_get l k x hx
  have hrow := World.alloc_heap_new W (Obj.cells (cellsT l).toArray t)
  refine ⟨_, rfl, by simp, ?_⟩
  rw [addT_off]
  refine ⟨?_, ?_, ?_⟩
  · rw [cell_of_row _ _ _ _ _ _ hrow, List.getElem?_toArray]; exact q1
  · rw [cell_of_row _ _ _ _ _ _ hrow, List.getElem?_toArray]; exact q2
  · rw [cell_of_row _ _ _ _ _ _ hrow, List.getElem?_toArray]; exact q3
def five : List Tk := [⟨0, 1, ⟨#[]⟩⟩, ⟨1, 1, ⟨#[]⟩⟩, ⟨0, 0, ⟨#[97]⟩⟩, ⟨0, 0, ⟨#[98]⟩⟩, ⟨5, 1, ⟨#[]⟩⟩]
def three : List Tk := [⟨0, 2, ⟨#[]⟩⟩, ⟨0, 0, ⟨#[97, 98]⟩⟩, ⟨5, 1, ⟨#[]⟩⟩]
theorem five_three : joinP five = three := by kernel_rfl
theorem three_bytes : bytesL three = 2 := by kernel_rfl

set_option maxHeartbeats 4000000 in
theorem tkAwake_any (w : World) : Calls Try.prog 31 #[] w fun e w' => e = .returned (.bool true) ∧ Below w.heap.size w w' := by
  go_enter Try.func31, Try.ntmps31
  go_wp2_with fail
  refine (copy_any 0 1 _).mono ?_
  rintro e w1 ⟨rfl, hb1⟩
  simp only [Tk.cells]
  go_wp2_with fail
  refine (copy_any 1 1 _).mono ?_
  rintro e w2 ⟨rfl, hb2⟩
  simp only [Tk.cells]
  go_wp2_with fail
  refine (literal_any ⟨#[97]⟩ _).mono ?_
  rintro e w3 ⟨rfl, hb3⟩
  simp only [Tk.cells]
  go_wp2_with fail
  refine (literal_any ⟨#[98]⟩ _).mono ?_
  rintro e w4 ⟨rfl, hb4⟩
  simp only [Tk.cells]
  go_wp2_with fail
  refine (copy_any 5 1 _).mono ?_
  rintro e w5 ⟨rfl, hb5⟩
  have HB5 := hide (((((hb1.trans (hb2.mono hb1.size)).trans (hb3.mono (hb1.trans (hb2.mono hb1.size)).size)).trans (hb4.mono ((hb1.trans (hb2.mono hb1.size)).trans (hb3.mono (hb1.trans (hb2.mono hb1.size)).size)).size)).trans (hb5.mono (((hb1.trans (hb2.mono hb1.size)).trans (hb3.mono (hb1.trans (hb2.mono hb1.size)).size)).trans (hb4.mono ((hb1.trans (hb2.mono hb1.size)).trans (hb3.mono (hb1.trans (hb2.mono hb1.size)).size)).size)).size)))
  simp only [Tk.cells]
  clear hb1 hb2 hb3 hb4 hb5
  go_wp2_with fail
  have HJ := hide (joinP_any (some ⟨w5.heap.size, 0, none⟩) five 5 _ (RdT.many w5 five 71) (by decide) (by decide))
  refine HJ.out.mono ?_
  rintro e w6 ⟨v, rfl, hI⟩
  rw [five_three] at hI
  obtain ⟨D, d, rfl⟩ := ownsRow_slice hI.own
  have hlen : three.length = 3 := rfl
  have HI := hide hI
  have hb6 := HB5.out.trans ((((Below.refl w5.heap.size w5).alloc (Nat.le_refl _) (.cells (cellsT five).toArray 71)).trans (hI.below.mono (by simp))).mono HB5.out.size)
  have HB6 := hide hb6
  clear hI hb6 HJ
  go_wp2_with fail
  have HB7 := hide (HB6.out.alloc HB6.out.size (.cells (cellsT three).toArray 71))
  have HS := hide (same_any D (some ⟨w6.heap.size, 0, none⟩) three three d 3 _ ((RdT.own HI.out.own).step ((Below.refl _ w6).alloc (Nat.le_refl _) (.cells (cellsT three).toArray 71))) (RdT.many w6 three 71) (by decide))
  rw [sameB_refl] at HS
  refine HS.out.mono ?_
  rintro e w8 ⟨rfl, hb8⟩
  have HB8 := hide (HB7.out.trans (hb8.mono HB7.out.size))
  have HBy := hide (bytesL_any D three d w8 ((((RdT.own HI.out.own).step ((Below.refl _ w6).alloc (Nat.le_refl _) (.cells (cellsT three).toArray 71)))).step hb8) (by decide) (by decide))
  rw [three_bytes] at HBy
  clear HS hb8 HI
  go_wp2_with fail
  refine HBy.out.mono ?_
  rintro e w9 ⟨rfl, hb9⟩
  have HB9 := hide (HB8.out.trans (hb9.mono HB8.out.size))
  clear hb9 HBy
  go_wp2_with fail
  exact bodyPost_ret (results_tmp rfl _ _ _) rfl ⟨rfl, HB9.out⟩
end Go.Proofs.Yteaagmlejoiehaa
