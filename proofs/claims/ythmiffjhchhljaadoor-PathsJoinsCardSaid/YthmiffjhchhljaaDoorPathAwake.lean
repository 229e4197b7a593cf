/-
  The law's awake: the page's examples.
-/
import Derived.Test.YthmiffjhchhljaaDoorLawSeqs
import Derived.Test.YthmiffjhchhljaaDoorPathCutMore
namespace Go.Proofs.YthmiffjhchhljaaDoor
open Go.RowKit
set_option maxRecDepth 100000

theorem toL_inj {x y : ByteArray} (h : toL x = toL y) : x = y := by
  obtain ⟨⟨x⟩⟩ := x
  obtain ⟨⟨y⟩⟩ := y
  simp only [toL] at h
  subst h
  rfl
/-- Two texts that the call has just laid. -/
theorem Rd.two (w : World) (x y : ByteArray) (e : TypeId) : Rd (w.alloc (.cells #[.string x, .string y] e)) (w.alloc (.cells #[.string x, .string y] e)).heap.size (some ⟨w.heap.size, 0, none⟩) [x, y] := fun k z hz => by
  refine ⟨_, rfl, by simp, ?_⟩
  have hrow := World.alloc_heap_new w (Obj.cells #[.string x, .string y] e)
  rcases k with _ | _ | k
  · simp at hz; subst hz
    exact cell_of_row _ _ _ _ _ _ hrow
  · simp at hz; subst hz
    exact cell_of_row _ _ _ _ _ _ hrow
  · simp at hz

theorem awake_moveOk : moveOk ⟨#[97, 47, 98, 47, 99]⟩ ⟨#[97]⟩ ⟨#[120, 47, 121]⟩ = true := by
  rw [moveOk_cut letter_slash]; kernel_rfl
theorem awake_moved : movedV ⟨#[97, 47, 98, 47, 99]⟩ ⟨#[97]⟩ ⟨#[120, 47, 121]⟩ = ⟨#[120, 47, 121, 47, 98, 47, 99]⟩ := by
  unfold movedV
  rw [awake_moveOk, if_pos rfl]
  apply toL_inj
  have h := awake_moveOk
  unfold moveOk at h
  rw [Bool.and_eq_true, Bool.and_eq_true] at h
  exact (moved_cut _ _ _ h.1.1).trans (by kernel_rfl)

set_option maxHeartbeats 2000000 in
theorem awake_any (w : World) : Calls Tryd.prog 12 #[] w fun e w' => e = .returned (.bool true) ∧ Below w.heap.size w w' := by
  go_enter Tryd.func12, Tryd.ntmps12
  go_wp2_with fail
  refine (rebase_any _ _ _ _ (by decide) (by decide) (by decide)).mono ?_
  rw [awake_moved, awake_moveOk]
  rintro e w1 ⟨rfl, hB1⟩
  go_wp2_with fail
  refine (lawUps_any _ 9 _ (by decide) (by decide)).mono ?_
  rintro e w2 ⟨A, c, cs, rfl, hcs, hcap, hR, hB2⟩
  have HC := hide (show cs.map toL = [[], [97]] by rw [hcs]; kernel_rfl)
  clear hcs
  go_wp2_with fail
  refine (cmp_any _ _ _ (by decide) (by decide)).mono ?_
  rw [show cmpL (⟨#[97, 47, 98]⟩ : ByteArray).data.toList (⟨#[97, 45, 98]⟩ : ByteArray).data.toList = -1 by kernel_rfl]
  rintro e w3 ⟨rfl, hB3⟩
  go_wp2_with fail
  have HR := Rd.two w3 ⟨#[]⟩ ⟨#[97]⟩ 9
  have hR3 : Rd (w3.alloc (.cells #[.string ⟨#[]⟩, .string ⟨#[97]⟩] 9)) (w3.alloc (.cells #[.string ⟨#[]⟩, .string ⟨#[97]⟩] 9)).heap.size A cs :=
    ((hR.below hB3 (Nat.le_refl _)).below ((Below.refl _ w3).alloc (Nat.le_refl _) _) hB3.size).mono (by have := hB3.size; simp; omega)
  have hn : (cs.length : Int) ≤ 1000000 := by have := congrArg List.length HC.out; simp at this; omega
  refine (refSame_any A (some ⟨w3.heap.size, 0, none⟩) cs [⟨#[]⟩, ⟨#[97]⟩] c 2 _ hR3 HR hn).mono ?_
  rw [HC.out, show (([[], [97]] : List (List UInt8)) == List.map toL [⟨#[]⟩, ⟨#[97]⟩]) = true by kernel_rfl]
  rintro e w4 ⟨rfl, hB4⟩
  go_wp2_with fail
  refine bodyPost_ret (results_tmp rfl _ _ _) rfl ⟨rfl, ?_⟩
  have h3 := (hB1.trans (hB2.mono hB1.size)).trans (hB3.mono (Nat.le_trans hB1.size hB2.size))
  exact (h3.alloc h3.size _).trans (hB4.mono (by have := h3.size; simp; omega))
end Go.Proofs.YthmiffjhchhljaaDoor
