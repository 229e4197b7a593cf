/-
  The reference's Alike.
-/
import Derived.Test.YtpefcadlejcbbaaSkAlike
namespace Go.Proofs.Ytpefcadlejcbbaa
open Go.RowKit
set_option maxRecDepth 100000

set_option maxHeartbeats 4000000 in
theorem refAlike_any (a b : List Nat) (w : World) (ha : a.length = 8) (hb : b.length = 8) :
    Calls Try.prog 15 #[.agg (U a), .agg (U b)] w fun e w' => e = .returned (.int .i64 (sameTo a b 8 : Nat)) ∧ Below w.heap.size w w' := by
  have HK := hide (two_rows w (U a) (U b) 30 30)
  go_enter Try.func15, Try.ntmps15
  go_wp2_with fail
  generalize ((w.alloc (.cells (U a) 30)).alloc (.cells (U b) 30)) = w2 at HK ⊢
  go_loopw [5, 6] (fun n i wr => ∃ k s : Nat, k ≤ 8 ∧ i = .int .i64 k ∧ n = .int .i64 s ∧ s ≤ k ∧ Hid (s = sameTo a b k) ∧ Hid (wr.heap[w.heap.size]? = some (.cells (U a) 30 (0, 0)) ∧ wr.heap[w.heap.size + 1]? = some (.cells (U b) 30 (0, 0)) ∧ Below w.heap.size w wr)) (fun _ i _ => 8 - (intOf i).toNat)
  case atStart => exact ⟨0, 0, by decide, rfl, rfl, Nat.le_refl _, hide rfl, HK⟩
  case round =>
    clear HK
    obtain ⟨k, s, hk, rfl, rfl, hs, HS, HK⟩ := hrel
    by_cases hlt : (k : Int) < 8
    · have hk8 : k < 8 := by omega
      obtain ⟨x, hx⟩ : ∃ x, a[k]? = some x := ⟨_, List.getElem?_eq_getElem (by omega)⟩
      obtain ⟨y, hy⟩ : ∃ y, b[k]? = some y := ⟨_, List.getElem?_eq_getElem (by omega)⟩
      have i0 := index8 w.heap.size k hk8
      have i1 := index8 (w.heap.size + 1) k hk8
      have cx : wr.cell? ⟨w.heap.size, k, none⟩ = some (.int .u64 x) := (cell_of_row _ _ _ _ _ _ HK.out.1).trans (U_at _ _ _ hx)
      have cy : wr.cell? ⟨w.heap.size + 1, k, none⟩ = some (.int .u64 y) := (cell_of_row _ _ _ _ _ _ HK.out.2.1).trans (U_at _ _ _ hy)
      have HT := hide (show sameTo a b (k + 1) = s + if x = y then 1 else 0 by
        have h : sameTo a b (k + 1) = sameTo a b k + if a[k]? = b[k]? then 1 else 0 := rfl
        rw [h, HS.out, hx, hy]
        simp)
      have hs8 : (s : Int) ≤ 8 := by omega
      have HD := hide (show wr.drew.heap[w.heap.size]? = some (.cells (U a) 30 (0, 0)) ∧ wr.drew.heap[w.heap.size + 1]? = some (.cells (U b) 30 (0, 0)) ∧ Below w.heap.size w wr.drew from ⟨HK.out.1, HK.out.2.1, HK.out.2.2.os, HK.out.2.2.tape, HK.out.2.2.output, HK.out.2.2.size, HK.out.2.2.block⟩)
      clear hx hy
      by_cases hxy : x = y
      · have HT2 := hide (show s + 1 = sameTo a b (k + 1) by rw [HT.out, if_pos hxy])
        subst hxy
        clear HT
        go_wp2_with fail
        go_still (by kernel_rfl)
        go_wp2_with fail
        go_roundw
        case rel => exact ⟨k + 1, s + 1, hk8, rfl, rfl, by omega, HT2, HD⟩
        case measure => simp [intOf]; omega
      · have HT2 := hide (show s = sameTo a b (k + 1) by rw [HT.out, if_neg hxy]; rfl)
        have hne : ¬ (x : Int) = (y : Int) := by omega
        clear HT
        go_wp2_with fail
        go_still (by kernel_rfl)
        go_wp2_with fail
        go_roundw
        case rel => exact ⟨k + 1, s, hk8, rfl, rfl, by omega, HT2, HD⟩
        case measure => simp [intOf]; omega
    · obtain rfl : k = 8 := by omega
      go_wp2_with fail
      refine bodyPost_ret (results_tmp rfl _ _ _) rfl ⟨by rw [← HS.out]; rfl, HK.out.2.2⟩
end Go.Proofs.Ytpefcadlejcbbaa
