/-
  A text's two sums: block.SignOf and the reference's.
-/
import Derived.Test.YtdkdnfcmlnfkcaaMixOf
import Derived.Test.YtdkdnfcmlnfkcaaMixRefOf
import Derived.Test.YtdkdnfcmlnfkcaaRollOf
import Derived.Test.YtdkdnfcmlnfkcaaBkCount
namespace Go.Proofs.Ytdkdnfcmlnfkcaa
open Go.RowKit
set_option maxRecDepth 100000

/-- A sign. -/
structure Sg where
  weak : Nat
  hi : Nat
  lo : Nat
def Sg.cells (s : Sg) : Array Value := #[.int .u32 (s.weak : Nat), .int .u64 (s.hi : Nat), .int .u64 (s.lo : Nat)]
/-- Its numbers fit. -/
def Sg.fits (s : Sg) : Prop := s.weak < 4294967296 ∧ s.hi < 18446744073709551616 ∧ s.lo < 18446744073709551616
/-- The sign of a text. -/
def signL (l : List UInt8) : Sg := ⟨weakN l, (sumL l).1, (sumL l).2⟩
theorem row_sign (w : World) (n : Nat) (a b c x y z : Value) (t : TypeId) (h : w.heap[n]? = some (.cells #[a, b, c] t (0, 0))) :
    (((w.setCell ⟨n, 0, none⟩ x).setCell ⟨n, 1, none⟩ y).setCell ⟨n, 2, none⟩ z).cell? ⟨n, 0, none⟩ = some x ∧ (((w.setCell ⟨n, 0, none⟩ x).setCell ⟨n, 1, none⟩ y).setCell ⟨n, 2, none⟩ z).cell? ⟨n, 1, none⟩ = some y ∧ (((w.setCell ⟨n, 0, none⟩ x).setCell ⟨n, 1, none⟩ y).setCell ⟨n, 2, none⟩ z).cell? ⟨n, 2, none⟩ = some z := by
  have hfin := heap_setCell_same _ n 2 _ _ z (heap_setCell_same _ n 1 _ _ y (heap_setCell_same w n 0 _ _ x h))
  exact ⟨cell_of_row _ _ _ _ _ _ hfin, cell_of_row _ _ _ _ _ _ hfin, cell_of_row _ _ _ _ _ _ hfin⟩

set_option maxHeartbeats 4000000 in
theorem signOf_any (A : Option Addr) (l : List UInt8) (c : Nat) (w : World) (hR : RdB w w.heap.size A l) (hc : l.length ≤ c) (hl : l.length ≤ 1000000) :
    Calls Try.prog 18 #[.slice A l.length c] w fun e w' => e = .returned (.agg (signL l).cells) ∧ Below w.heap.size w w' := by
  have hb0 := (Below.refl w.heap.size w).alloc (Nat.le_refl _) (.cells #[.int .u32 0, .int .u64 0, .int .u64 0] 30)
  have hrow := World.alloc_heap_new w (Obj.cells #[.int .u32 0, .int .u64 0, .int .u64 0] 30)
  have HW := hide (fun (W : World) (h : Below w.heap.size w W) => rollOf_any A l c W (hR.step h) hl)
  have HM := hide (fun (W : World) (h : Below w.heap.size w W) => of_any A l c W (hR.step h) hc hl)
  have hV : signL l = ⟨weakN l, (sumL l).1, (sumL l).2⟩ := rfl
  generalize signL l = V at hV ⊢
  generalize weakN l = wk at HW hV
  generalize sumL l = sm at HM hV
  obtain ⟨h1, h2⟩ := sm
  simp only at hV
  subst hV
  simp only [stV, Sg.cells] at HM ⊢
  have HB0 := hide hb0
  clear hR hb0
  go_enter Try.func18, Try.ntmps18
  go_wp2_with fail
  refine (HW.out _ HB0.out).mono ?_
  rintro e w1 ⟨rfl, hb1⟩
  have HB1 := hide (HB0.out.trans (hb1.mono HB0.out.size))
  have s1 := (hb1.block w.heap.size (by simp)).trans hrow
  clear hb1 hrow HB0
  go_wp2_with fail
  refine (HM.out _ HB1.out).mono ?_
  rintro e w2 ⟨rfl, hb2⟩
  have HB2 := hide (HB1.out.trans (hb2.mono HB1.out.size))
  have s2 := (hb2.block w.heap.size (Array.getElem?_eq_some_iff.1 s1).1).trans s1
  have z0 : w2.frozen? ⟨w.heap.size, 0, none⟩ = false := frozen_of_row _ _ _ _ _ s2
  have z1 : w2.frozen? ⟨w.heap.size, 1, none⟩ = false := frozen_of_row _ _ _ _ _ s2
  have z2 : w2.frozen? ⟨w.heap.size, 2, none⟩ = false := frozen_of_row _ _ _ _ _ s2
  have k0 : w2.cell? ⟨w.heap.size, 0, none⟩ = some (.int .u32 0) := cell_of_row _ _ _ _ _ _ s2
  have k1 : w2.cell? ⟨w.heap.size, 1, none⟩ = some (.int .u64 0) := cell_of_row _ _ _ _ _ _ s2
  have k2 : w2.cell? ⟨w.heap.size, 2, none⟩ = some (.int .u64 0) := cell_of_row _ _ _ _ _ _ s2
  have HX := hide (row_sign w2 w.heap.size _ _ _ (.int .u32 (wk : Nat)) (.int .u64 (h1 : Nat)) (.int .u64 (h2 : Nat)) _ s2)
  have HY := hide (((HB2.out.setCell (p := ⟨w.heap.size, 0, none⟩) (Nat.le_refl _) (.int .u32 (wk : Nat))).setCell (p := ⟨w.heap.size, 1, none⟩) (Nat.le_refl _) (.int .u64 (h1 : Nat))).setCell (p := ⟨w.heap.size, 2, none⟩) (Nat.le_refl _) (.int .u64 (h2 : Nat)))
  clear hb2 s1 s2 HB1 HB2 HW HM
  go_wp2_with fail
  obtain ⟨y0, y1, y2⟩ := HX.out
  refine bodyPost_ret (v := .agg #[.int .u32 (wk : Nat), .int .u64 (h1 : Nat), .int .u64 (h2 : Nat)]) (by simp [results, Try.results18, go_sem, y0, y1, y2]) rfl ⟨rfl, HY.out⟩

set_option maxHeartbeats 4000000 in
theorem refSignOf_any (l : List UInt8) (w : World) (hl : l.length ≤ 1000000) :
    Calls Try.prog 19 #[.string (ofL l)] w fun e w' => e = .returned (.agg (signL l).cells) ∧ Below w.heap.size w w' := by
  have hb0 := (Below.refl w.heap.size w).alloc (Nat.le_refl _) (.cells #[.int .u32 0, .int .u64 0, .int .u64 0] 37)
  have hrow := World.alloc_heap_new w (Obj.cells #[.int .u32 0, .int .u64 0, .int .u64 0] 37)
  have HW := hide (fun (W : World) => refWeak_any l W hl)
  have HM := hide (fun (W : World) => refOf_any l W hl)
  have hV : signL l = ⟨weakN l, (sumL l).1, (sumL l).2⟩ := rfl
  generalize signL l = V at hV ⊢
  generalize weakN l = wk at HW hV
  generalize sumL l = sm at HM hV
  obtain ⟨h1, h2⟩ := sm
  simp only at hV
  subst hV
  simp only [stV, Sg.cells] at HM ⊢
  have HB0 := hide hb0
  clear hb0
  go_enter Try.func19, Try.ntmps19
  go_wp2_with fail
  refine (HW.out _).mono ?_
  rintro e w1 ⟨rfl, rfl⟩
  go_wp2_with fail
  refine (HM.out _).mono ?_
  rintro e w2 ⟨rfl, hb2⟩
  have HB2 := hide (HB0.out.trans (hb2.mono HB0.out.size))
  have s2 := (hb2.block w.heap.size (by simp)).trans hrow
  have z0 : w2.frozen? ⟨w.heap.size, 0, none⟩ = false := frozen_of_row _ _ _ _ _ s2
  have z1 : w2.frozen? ⟨w.heap.size, 1, none⟩ = false := frozen_of_row _ _ _ _ _ s2
  have z2 : w2.frozen? ⟨w.heap.size, 2, none⟩ = false := frozen_of_row _ _ _ _ _ s2
  have k0 : w2.cell? ⟨w.heap.size, 0, none⟩ = some (.int .u32 0) := cell_of_row _ _ _ _ _ _ s2
  have k1 : w2.cell? ⟨w.heap.size, 1, none⟩ = some (.int .u64 0) := cell_of_row _ _ _ _ _ _ s2
  have k2 : w2.cell? ⟨w.heap.size, 2, none⟩ = some (.int .u64 0) := cell_of_row _ _ _ _ _ _ s2
  have HX := hide (row_sign w2 w.heap.size _ _ _ (.int .u32 (wk : Nat)) (.int .u64 (h1 : Nat)) (.int .u64 (h2 : Nat)) _ s2)
  have HY := hide (((HB2.out.setCell (p := ⟨w.heap.size, 0, none⟩) (Nat.le_refl _) (.int .u32 (wk : Nat))).setCell (p := ⟨w.heap.size, 1, none⟩) (Nat.le_refl _) (.int .u64 (h1 : Nat))).setCell (p := ⟨w.heap.size, 2, none⟩) (Nat.le_refl _) (.int .u64 (h2 : Nat)))
  clear hb2 s2 HB0 HB2 HW HM hrow
  go_wp2_with fail
  obtain ⟨y0, y1, y2⟩ := HX.out
  refine bodyPost_ret (v := .agg #[.int .u32 (wk : Nat), .int .u64 (h1 : Nat), .int .u64 (h2 : Nat)]) (by simp [results, Try.results19, go_sem, y0, y1, y2]) rfl ⟨rfl, HY.out⟩
end Go.Proofs.Ytdkdnfcmlnfkcaa
