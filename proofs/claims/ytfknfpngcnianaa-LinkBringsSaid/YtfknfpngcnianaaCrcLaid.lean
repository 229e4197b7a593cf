/-
  crc.laid: a number's bytes.
-/
import Derived.Test.YtfknfpngcnianaaBytes
namespace Go.Proofs.Ytfknfpngcnianaa
open Go.RowKit
set_option maxRecDepth 100000

/-- The row of a number's bytes, the first k of them. -/
def rowL (n : Nat) : Nat → Array Value
  | 0 => #[.int .u8 0, .int .u8 0, .int .u8 0, .int .u8 0]
  | 1 => #[.int .u8 ((n / 1 % 256 : Nat) : Int), .int .u8 0, .int .u8 0, .int .u8 0]
  | 2 => #[.int .u8 ((n / 1 % 256 : Nat) : Int), .int .u8 ((n / 256 % 256 : Nat) : Int), .int .u8 0, .int .u8 0]
  | 3 => #[.int .u8 ((n / 1 % 256 : Nat) : Int), .int .u8 ((n / 256 % 256 : Nat) : Int), .int .u8 ((n / 65536 % 256 : Nat) : Int), .int .u8 0]
  | _ => #[.int .u8 ((n / 1 % 256 : Nat) : Int), .int .u8 ((n / 256 % 256 : Nat) : Int), .int .u8 ((n / 65536 % 256 : Nat) : Int), .int .u8 ((n / 16777216 % 256 : Nat) : Int)]
/-- A number's bytes. -/
def le4 (n : Nat) : List UInt8 := [UInt8.ofNat (n / 1 % 256), UInt8.ofNat (n / 256 % 256), UInt8.ofNat (n / 65536 % 256), UInt8.ofNat (n / 16777216 % 256)]
theorem le4_row (n : Nat) : rowL n 4 = ((le4 n).map byteV).toArray := by
  have e : ∀ x : Nat, ((UInt8.ofNat (x % 256)).toNat : Int) = ((x % 256 : Nat) : Int) := fun x => by
    rw [UInt8.toNat_ofNat', Nat.mod_eq_of_lt (a := x % 256) (by omega)]
  show #[_, _, _, _] = #[_, _, _, _]
  unfold byteV
  rw [e, e, e, e]
theorem rows4 (w : World) (t u : TypeId) : ((w.alloc (.cells #[.int .u8 0, .int .u8 0, .int .u8 0, .int .u8 0] t)).alloc (.cells #[.int .u8 0, .int .u8 0, .int .u8 0, .int .u8 0] u)).heap[w.heap.size]? = some (.cells #[.int .u8 0, .int .u8 0, .int .u8 0, .int .u8 0] t (0, 0)) ∧ ((w.alloc (.cells #[.int .u8 0, .int .u8 0, .int .u8 0, .int .u8 0] t)).alloc (.cells #[.int .u8 0, .int .u8 0, .int .u8 0, .int .u8 0] u)).heap[w.heap.size + 1]? = some (.cells #[.int .u8 0, .int .u8 0, .int .u8 0, .int .u8 0] u (0, 0)) ∧ Below w.heap.size w ((w.alloc (.cells #[.int .u8 0, .int .u8 0, .int .u8 0, .int .u8 0] t)).alloc (.cells #[.int .u8 0, .int .u8 0, .int .u8 0, .int .u8 0] u)) := by
  refine ⟨?_, ?_, ((Below.refl _ w).alloc (Nat.le_refl _) _).alloc (by simp) _⟩
  · rw [Below.heap_alloc _ _ _ (by simp)]
    exact World.alloc_heap_new _ _
  · have h := World.alloc_heap_new (w.alloc (.cells #[.int .u8 0, .int .u8 0, .int .u8 0, .int .u8 0] t)) (Obj.cells #[.int .u8 0, .int .u8 0, .int .u8 0, .int .u8 0] u)
    simp only [World.size_alloc] at h
    exact h

set_option maxHeartbeats 4000000 in
theorem laid_any (n : Nat) (w : World) (hn : n < 4294967296) :
    Calls Try.prog 28 #[.int .u32 n] w fun e w' => e = .returned (.agg (rowL n 4)) ∧ Below w.heap.size w w' := by
  obtain ⟨r0, r1, hB⟩ := rows4 w 70 70
  have hni : (n : Int) < 4294967296 := by omega
  go_enter Try.func28, Try.ntmps28
  go_wp2_with fail
  generalize ((w.alloc (.cells #[.int .u8 0, .int .u8 0, .int .u8 0, .int .u8 0] 70)).alloc (.cells #[.int .u8 0, .int .u8 0, .int .u8 0, .int .u8 0] 70)) = w2 at r0 r1 hB ⊢
  go_loopw [4, 5] (fun _ i wr => ∃ k : Nat, k ≤ 4 ∧ i = .int .i64 k ∧ wr.heap[w.heap.size]? = some (.cells #[.int .u8 0, .int .u8 0, .int .u8 0, .int .u8 0] 70 (0, 0)) ∧ wr.heap[w.heap.size + 1]? = some (.cells (rowL n k) 70 (0, 0)) ∧ Below w.heap.size w wr) (fun _ i _ => 4 - (intOf i).toNat)
  case atStart => exact ⟨0, by decide, rfl, r0, r1, hB⟩
  case round =>
    clear r0 r1 hB
    obtain ⟨k, hk, rfl, r0, r1, hB⟩ := hrel
    by_cases hlt : k < 4
    · have hk4 : k = 0 ∨ k = 1 ∨ k = 2 ∨ k = 3 := by omega
      clear hk hlt
      rcases hk4 with rfl | rfl | rfl | rfl
      · have c0 : wr.cell? ⟨w.heap.size + 1, 0, none⟩ = some (.int .u8 0) := cell_of_row _ _ _ _ _ _ r1
        have z0 : wr.frozen? ⟨w.heap.size + 1, 0, none⟩ = false := frozen_of_row _ _ _ _ _ r1
        have hw : IntKind.u8.wrap (n : Int) = ((n / 1 % 256 : Nat) : Int) := by rw [IntKind.wrap_u8]; omega
        have hrow : (wr.setCell ⟨w.heap.size + 1, 0, none⟩ (.int .u8 ((n / 1 % 256 : Nat) : Int))).heap[w.heap.size + 1]? = some (.cells (rowL n 1) 70 (0, 0)) := heap_setCell_same wr (w.heap.size + 1) 0 _ _ _ r1
        have hrow0 : (wr.setCell ⟨w.heap.size + 1, 0, none⟩ (.int .u8 ((n / 1 % 256 : Nat) : Int))).heap[w.heap.size]? = some (.cells #[.int .u8 0, .int .u8 0, .int .u8 0, .int .u8 0] 70 (0, 0)) := by rw [Below.heap_setCell _ _ _ _ (by simp)]; exact r0
        have hB2 := hB.setCell (p := ⟨w.heap.size + 1, 0, none⟩) (by simp) (.int .u8 ((n / 1 % 256 : Nat) : Int))
        generalize ((n / 1 % 256 : Nat) : Int) = v at hw hrow0 hB2 hrow
        clear r0 r1 hB
        go_wp2_with fail
        go_roundw
        case rel => exact ⟨1, by decide, rfl, hrow0, hrow, hB2⟩
        case measure => simp [intOf]
      · have c0 : wr.cell? ⟨w.heap.size + 1, 1, none⟩ = some (.int .u8 0) := cell_of_row _ _ _ _ _ _ r1
        have z0 : wr.frozen? ⟨w.heap.size + 1, 1, none⟩ = false := frozen_of_row _ _ _ _ _ r1
        have hw : IntKind.u8.wrap ((n : Int) / 256) = ((n / 256 % 256 : Nat) : Int) := by rw [IntKind.wrap_u8]; omega
        have hrow : (wr.setCell ⟨w.heap.size + 1, 1, none⟩ (.int .u8 ((n / 256 % 256 : Nat) : Int))).heap[w.heap.size + 1]? = some (.cells (rowL n 2) 70 (0, 0)) := heap_setCell_same wr (w.heap.size + 1) 1 _ _ _ r1
        have hrow0 : (wr.setCell ⟨w.heap.size + 1, 1, none⟩ (.int .u8 ((n / 256 % 256 : Nat) : Int))).heap[w.heap.size]? = some (.cells #[.int .u8 0, .int .u8 0, .int .u8 0, .int .u8 0] 70 (0, 0)) := by rw [Below.heap_setCell _ _ _ _ (by simp)]; exact r0
        have hB2 := hB.setCell (p := ⟨w.heap.size + 1, 1, none⟩) (by simp) (.int .u8 ((n / 256 % 256 : Nat) : Int))
        generalize ((n / 256 % 256 : Nat) : Int) = v at hw hrow0 hB2 hrow
        clear r0 r1 hB
        go_wp2_with fail
        go_roundw
        case rel => exact ⟨2, by decide, rfl, hrow0, hrow, hB2⟩
        case measure => simp [intOf]
      · have c0 : wr.cell? ⟨w.heap.size + 1, 2, none⟩ = some (.int .u8 0) := cell_of_row _ _ _ _ _ _ r1
        have z0 : wr.frozen? ⟨w.heap.size + 1, 2, none⟩ = false := frozen_of_row _ _ _ _ _ r1
        have hw : IntKind.u8.wrap ((n : Int) / 65536) = ((n / 65536 % 256 : Nat) : Int) := by rw [IntKind.wrap_u8]; omega
        have hrow : (wr.setCell ⟨w.heap.size + 1, 2, none⟩ (.int .u8 ((n / 65536 % 256 : Nat) : Int))).heap[w.heap.size + 1]? = some (.cells (rowL n 3) 70 (0, 0)) := heap_setCell_same wr (w.heap.size + 1) 2 _ _ _ r1
        have hrow0 : (wr.setCell ⟨w.heap.size + 1, 2, none⟩ (.int .u8 ((n / 65536 % 256 : Nat) : Int))).heap[w.heap.size]? = some (.cells #[.int .u8 0, .int .u8 0, .int .u8 0, .int .u8 0] 70 (0, 0)) := by rw [Below.heap_setCell _ _ _ _ (by simp)]; exact r0
        have hB2 := hB.setCell (p := ⟨w.heap.size + 1, 2, none⟩) (by simp) (.int .u8 ((n / 65536 % 256 : Nat) : Int))
        generalize ((n / 65536 % 256 : Nat) : Int) = v at hw hrow0 hB2 hrow
        clear r0 r1 hB
        go_wp2_with fail
        go_roundw
        case rel => exact ⟨3, by decide, rfl, hrow0, hrow, hB2⟩
        case measure => simp [intOf]
      · have c0 : wr.cell? ⟨w.heap.size + 1, 3, none⟩ = some (.int .u8 0) := cell_of_row _ _ _ _ _ _ r1
        have z0 : wr.frozen? ⟨w.heap.size + 1, 3, none⟩ = false := frozen_of_row _ _ _ _ _ r1
        have hw : IntKind.u8.wrap ((n : Int) / 16777216) = ((n / 16777216 % 256 : Nat) : Int) := by rw [IntKind.wrap_u8]; omega
        have hrow : (wr.setCell ⟨w.heap.size + 1, 3, none⟩ (.int .u8 ((n / 16777216 % 256 : Nat) : Int))).heap[w.heap.size + 1]? = some (.cells (rowL n 4) 70 (0, 0)) := heap_setCell_same wr (w.heap.size + 1) 3 _ _ _ r1
        have hrow0 : (wr.setCell ⟨w.heap.size + 1, 3, none⟩ (.int .u8 ((n / 16777216 % 256 : Nat) : Int))).heap[w.heap.size]? = some (.cells #[.int .u8 0, .int .u8 0, .int .u8 0, .int .u8 0] 70 (0, 0)) := by rw [Below.heap_setCell _ _ _ _ (by simp)]; exact r0
        have hB2 := hB.setCell (p := ⟨w.heap.size + 1, 3, none⟩) (by simp) (.int .u8 ((n / 16777216 % 256 : Nat) : Int))
        generalize ((n / 16777216 % 256 : Nat) : Int) = v at hw hrow0 hB2 hrow
        clear r0 r1 hB
        go_wp2_with fail
        go_roundw
        case rel => exact ⟨4, by decide, rfl, hrow0, hrow, hB2⟩
        case measure => simp [intOf]
    · obtain rfl : k = 4 := by omega
      have hrow : rowL n 4 = #[.int .u8 ((n / 1 % 256 : Nat) : Int), .int .u8 ((n / 256 % 256 : Nat) : Int), .int .u8 ((n / 65536 % 256 : Nat) : Int), .int .u8 ((n / 16777216 % 256 : Nat) : Int)] := rfl
      rw [hrow] at r1
      have HR := hide hrow
      clear hrow
      generalize ((n / 1 % 256 : Nat) : Int) = b0 at r1 HR
      generalize ((n / 256 % 256 : Nat) : Int) = b1 at r1 HR
      generalize ((n / 65536 % 256 : Nat) : Int) = b2 at r1 HR
      generalize ((n / 16777216 % 256 : Nat) : Int) = b3 at r1 HR
      have c0 : wr.cell? ⟨w.heap.size + 1, 0, none⟩ = some (.int .u8 b0) := cell_of_row _ _ _ _ _ _ r1
      have d0 : wr.cell? ⟨w.heap.size, 0, none⟩ = some (.int .u8 0) := cell_of_row _ _ _ _ _ _ r0
      have z0 : wr.frozen? ⟨w.heap.size, 0, none⟩ = false := frozen_of_row _ _ _ _ _ r0
      have c1 : wr.cell? ⟨w.heap.size + 1, 1, none⟩ = some (.int .u8 b1) := cell_of_row _ _ _ _ _ _ r1
      have d1 : wr.cell? ⟨w.heap.size, 1, none⟩ = some (.int .u8 0) := cell_of_row _ _ _ _ _ _ r0
      have z1 : wr.frozen? ⟨w.heap.size, 1, none⟩ = false := frozen_of_row _ _ _ _ _ r0
      have c2 : wr.cell? ⟨w.heap.size + 1, 2, none⟩ = some (.int .u8 b2) := cell_of_row _ _ _ _ _ _ r1
      have d2 : wr.cell? ⟨w.heap.size, 2, none⟩ = some (.int .u8 0) := cell_of_row _ _ _ _ _ _ r0
      have z2 : wr.frozen? ⟨w.heap.size, 2, none⟩ = false := frozen_of_row _ _ _ _ _ r0
      have c3 : wr.cell? ⟨w.heap.size + 1, 3, none⟩ = some (.int .u8 b3) := cell_of_row _ _ _ _ _ _ r1
      have d3 : wr.cell? ⟨w.heap.size, 3, none⟩ = some (.int .u8 0) := cell_of_row _ _ _ _ _ _ r0
      have z3 : wr.frozen? ⟨w.heap.size, 3, none⟩ = false := frozen_of_row _ _ _ _ _ r0
      have HX := hide (And.intro (heap_setCell_same _ w.heap.size 3 _ _ (.int .u8 b3) (heap_setCell_same _ w.heap.size 2 _ _ (.int .u8 b2) (heap_setCell_same _ w.heap.size 1 _ _ (.int .u8 b1) (heap_setCell_same _ w.heap.size 0 _ _ (.int .u8 b0) r0)))) ((((hB.setCell (p := ⟨w.heap.size, 0, none⟩) (Nat.le_refl _) (.int .u8 b0)).setCell (p := ⟨w.heap.size, 1, none⟩) (Nat.le_refl _) (.int .u8 b1)).setCell (p := ⟨w.heap.size, 2, none⟩) (Nat.le_refl _) (.int .u8 b2)).setCell (p := ⟨w.heap.size, 3, none⟩) (Nat.le_refl _) (.int .u8 b3)))
      clear r0 r1 hB
      go_wp2_with fail
      obtain ⟨hf, hBf⟩ := HX.out
      have y0 : ((((wr.setCell ⟨w.heap.size, 0, none⟩ (.int .u8 b0)).setCell ⟨w.heap.size, 1, none⟩ (.int .u8 b1)).setCell ⟨w.heap.size, 2, none⟩ (.int .u8 b2)).setCell ⟨w.heap.size, 3, none⟩ (.int .u8 b3)).cell? ⟨w.heap.size, 0, none⟩ = some (.int .u8 b0) := cell_of_row _ _ _ _ _ _ hf
      have y1 : ((((wr.setCell ⟨w.heap.size, 0, none⟩ (.int .u8 b0)).setCell ⟨w.heap.size, 1, none⟩ (.int .u8 b1)).setCell ⟨w.heap.size, 2, none⟩ (.int .u8 b2)).setCell ⟨w.heap.size, 3, none⟩ (.int .u8 b3)).cell? ⟨w.heap.size, 1, none⟩ = some (.int .u8 b1) := cell_of_row _ _ _ _ _ _ hf
      have y2 : ((((wr.setCell ⟨w.heap.size, 0, none⟩ (.int .u8 b0)).setCell ⟨w.heap.size, 1, none⟩ (.int .u8 b1)).setCell ⟨w.heap.size, 2, none⟩ (.int .u8 b2)).setCell ⟨w.heap.size, 3, none⟩ (.int .u8 b3)).cell? ⟨w.heap.size, 2, none⟩ = some (.int .u8 b2) := cell_of_row _ _ _ _ _ _ hf
      have y3 : ((((wr.setCell ⟨w.heap.size, 0, none⟩ (.int .u8 b0)).setCell ⟨w.heap.size, 1, none⟩ (.int .u8 b1)).setCell ⟨w.heap.size, 2, none⟩ (.int .u8 b2)).setCell ⟨w.heap.size, 3, none⟩ (.int .u8 b3)).cell? ⟨w.heap.size, 3, none⟩ = some (.int .u8 b3) := cell_of_row _ _ _ _ _ _ hf
      refine bodyPost_ret (v := .agg #[.int .u8 b0, .int .u8 b1, .int .u8 b2, .int .u8 b3]) (by simp [results, Try.results28, go_sem, y0, y1, y2, y3]) rfl ⟨by rw [HR.out], hBf⟩
end Go.Proofs.Ytfknfpngcnianaa
