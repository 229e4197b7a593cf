/-
  The reference's Bytes.
-/
import Derived.Test.YtfknfpngcnianaaCrcLaid
namespace Go.Proofs.Ytfknfpngcnianaa
open Go.RowKit
set_option maxRecDepth 100000

theorem crow_any {W : World} {g : Nat} {l : List UInt8} {t : TypeId} (h : W.heap[g]? = some (.cells (l.map byteV).toArray t (0, 0))) : RdB W W.heap.size (some ⟨g, 0, none⟩) l := fun k x hx => by
  refine ⟨_, rfl, (Array.getElem?_eq_some_iff.1 h).1, ?_⟩
  have e : ((⟨g, 0, none⟩ : Addr).add k) = ⟨g, k, none⟩ := by unfold Addr.add; split <;> simp_all
  rw [e, cell_of_row _ _ _ _ _ _ h, List.getElem?_toArray, List.getElem?_map, hx]; rfl
theorem make4 (w : World) : (Instr.makeSlice 41 (.int .i64 4) (.int .i64 4)).run Try.prog w = .ok (.slice (some ⟨w.heap.size, 0, none⟩) 4 4) (w.alloc (.cells #[.int .u8 0, .int .u8 0, .int .u8 0, .int .u8 0] 5)) := by kernel_rfl

set_option maxHeartbeats 4000000 in
theorem refFour_any (n : Nat) (w : World) (hn : n < 4294967296) :
    Calls Try.prog 26 #[.int .u32 n] w fun e w' => e = .returned (.string (ofL (le4 n))) ∧ Below w.heap.size w w' := by
  have hmk := make4 w
  have hB : Below w.heap.size w (w.alloc (.cells #[.int .u8 0, .int .u8 0, .int .u8 0, .int .u8 0] 5)) := (Below.refl _ w).alloc (Nat.le_refl _) _
  have r1 := World.alloc_heap_new w (Obj.cells #[.int .u8 0, .int .u8 0, .int .u8 0, .int .u8 0] 5)
  generalize (w.alloc (.cells #[.int .u8 0, .int .u8 0, .int .u8 0, .int .u8 0] 5)) = w2 at hmk hB r1
  go_enter Try.func26, Try.ntmps26
  go_wp2_with fail
  clear hmk
  go_loopw [0, 4] (fun v i wr => ∃ k : Nat, k ≤ 4 ∧ i = .int .i64 k ∧ v = .int .u32 (n / 256 ^ k : Nat) ∧ wr.heap[w.heap.size]? = some (.cells (rowL n k) 5 (0, 0)) ∧ Below w.heap.size w wr) (fun _ i _ => 4 - (intOf i).toNat)
  case atStart => exact ⟨0, by decide, rfl, by simp, r1, hB⟩
  case round =>
    clear r1 hB
    obtain ⟨k, hk, rfl, rfl, r1, hB⟩ := hrel
    by_cases hlt : k < 4
    · have hk4 : k = 0 ∨ k = 1 ∨ k = 2 ∨ k = 3 := by omega
      clear hk hlt
      rcases hk4 with rfl | rfl | rfl | rfl
      · have c0 : wr.cell? ⟨w.heap.size, 0, none⟩ = some (.int .u8 0) := cell_of_row _ _ _ _ _ _ r1
        have z0 : wr.frozen? ⟨w.heap.size, 0, none⟩ = false := frozen_of_row _ _ _ _ _ r1
        have hq : n / 256 ^ 0 % 256 = n / 1 % 256 := rfl
        have hd : n / 256 ^ 1 = n / 256 ^ 0 / 256 := by rw [show 256 ^ 1 = 256 by decide, show 256 ^ 0 = 1 by decide]; omega
        have hrow : (wr.setCell ⟨w.heap.size, 0, none⟩ (.int .u8 ((n / 256 ^ 0 % 256 : Nat) : Int))).heap[w.heap.size]? = some (.cells (rowL n 1) 5 (0, 0)) := heap_setCell_same wr w.heap.size 0 _ _ _ r1
        have hB2 := hB.setCell (p := ⟨w.heap.size, 0, none⟩) (Nat.le_refl _) (.int .u8 ((n / 256 ^ 0 % 256 : Nat) : Int))
        have hlt2 : n / 256 ^ 0 < 4294967296 := Nat.lt_of_le_of_lt (Nat.div_le_self _ _) hn
        have HD := hide hd
        clear hq hd r1 hB
        generalize n / 256 ^ 0 = q at hrow hB2 hlt2 HD ⊢
        have q0 : (0 : Int) ≤ (q : Int) := by omega
        have q1 : (q : Int) < 4294967296 := by omega
        go_wp2_with fail
        go_roundw
        case rel => exact ⟨1, by decide, rfl, by rw [HD.out]; rfl, hrow, hB2⟩
        case measure => simp [intOf]
      · have c0 : wr.cell? ⟨w.heap.size, 1, none⟩ = some (.int .u8 0) := cell_of_row _ _ _ _ _ _ r1
        have z0 : wr.frozen? ⟨w.heap.size, 1, none⟩ = false := frozen_of_row _ _ _ _ _ r1
        have hq : n / 256 ^ 1 % 256 = n / 256 % 256 := rfl
        have hd : n / 256 ^ 2 = n / 256 ^ 1 / 256 := by rw [show 256 ^ 2 = 65536 by decide, show 256 ^ 1 = 256 by decide]; omega
        have hrow : (wr.setCell ⟨w.heap.size, 1, none⟩ (.int .u8 ((n / 256 ^ 1 % 256 : Nat) : Int))).heap[w.heap.size]? = some (.cells (rowL n 2) 5 (0, 0)) := heap_setCell_same wr w.heap.size 1 _ _ _ r1
        have hB2 := hB.setCell (p := ⟨w.heap.size, 1, none⟩) (Nat.le_refl _) (.int .u8 ((n / 256 ^ 1 % 256 : Nat) : Int))
        have hlt2 : n / 256 ^ 1 < 4294967296 := Nat.lt_of_le_of_lt (Nat.div_le_self _ _) hn
        have HD := hide hd
        clear hq hd r1 hB
        generalize n / 256 ^ 1 = q at hrow hB2 hlt2 HD ⊢
        have q0 : (0 : Int) ≤ (q : Int) := by omega
        have q1 : (q : Int) < 4294967296 := by omega
        go_wp2_with fail
        go_roundw
        case rel => exact ⟨2, by decide, rfl, by rw [HD.out]; rfl, hrow, hB2⟩
        case measure => simp [intOf]
      · have c0 : wr.cell? ⟨w.heap.size, 2, none⟩ = some (.int .u8 0) := cell_of_row _ _ _ _ _ _ r1
        have z0 : wr.frozen? ⟨w.heap.size, 2, none⟩ = false := frozen_of_row _ _ _ _ _ r1
        have hq : n / 256 ^ 2 % 256 = n / 65536 % 256 := rfl
        have hd : n / 256 ^ 3 = n / 256 ^ 2 / 256 := by rw [show 256 ^ 3 = 16777216 by decide, show 256 ^ 2 = 65536 by decide]; omega
        have hrow : (wr.setCell ⟨w.heap.size, 2, none⟩ (.int .u8 ((n / 256 ^ 2 % 256 : Nat) : Int))).heap[w.heap.size]? = some (.cells (rowL n 3) 5 (0, 0)) := heap_setCell_same wr w.heap.size 2 _ _ _ r1
        have hB2 := hB.setCell (p := ⟨w.heap.size, 2, none⟩) (Nat.le_refl _) (.int .u8 ((n / 256 ^ 2 % 256 : Nat) : Int))
        have hlt2 : n / 256 ^ 2 < 4294967296 := Nat.lt_of_le_of_lt (Nat.div_le_self _ _) hn
        have HD := hide hd
        clear hq hd r1 hB
        generalize n / 256 ^ 2 = q at hrow hB2 hlt2 HD ⊢
        have q0 : (0 : Int) ≤ (q : Int) := by omega
        have q1 : (q : Int) < 4294967296 := by omega
        go_wp2_with fail
        go_roundw
        case rel => exact ⟨3, by decide, rfl, by rw [HD.out]; rfl, hrow, hB2⟩
        case measure => simp [intOf]
      · have c0 : wr.cell? ⟨w.heap.size, 3, none⟩ = some (.int .u8 0) := cell_of_row _ _ _ _ _ _ r1
        have z0 : wr.frozen? ⟨w.heap.size, 3, none⟩ = false := frozen_of_row _ _ _ _ _ r1
        have hq : n / 256 ^ 3 % 256 = n / 16777216 % 256 := rfl
        have hd : n / 256 ^ 4 = n / 256 ^ 3 / 256 := by rw [show 256 ^ 4 = 4294967296 by decide, show 256 ^ 3 = 16777216 by decide]; omega
        have hrow : (wr.setCell ⟨w.heap.size, 3, none⟩ (.int .u8 ((n / 256 ^ 3 % 256 : Nat) : Int))).heap[w.heap.size]? = some (.cells (rowL n 4) 5 (0, 0)) := heap_setCell_same wr w.heap.size 3 _ _ _ r1
        have hB2 := hB.setCell (p := ⟨w.heap.size, 3, none⟩) (Nat.le_refl _) (.int .u8 ((n / 256 ^ 3 % 256 : Nat) : Int))
        have hlt2 : n / 256 ^ 3 < 4294967296 := Nat.lt_of_le_of_lt (Nat.div_le_self _ _) hn
        have HD := hide hd
        clear hq hd r1 hB
        generalize n / 256 ^ 3 = q at hrow hB2 hlt2 HD ⊢
        have q0 : (0 : Int) ≤ (q : Int) := by omega
        have q1 : (q : Int) < 4294967296 := by omega
        go_wp2_with fail
        go_roundw
        case rel => exact ⟨4, by decide, rfl, by rw [HD.out]; rfl, hrow, hB2⟩
        case measure => simp [intOf]
    · obtain rfl : k = 4 := by omega
      rw [le4_row] at r1
      have hcv := conv_any (crow_any r1) 4
      rw [show (le4 n).length = 4 from rfl] at hcv
      go_wp2_with fail
      exact bodyPost_ret (results_tmp rfl _ _ _) rfl ⟨rfl, hB⟩

end Go.Proofs.Ytfknfpngcnianaa
