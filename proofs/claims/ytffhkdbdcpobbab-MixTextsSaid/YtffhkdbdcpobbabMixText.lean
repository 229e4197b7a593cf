/-
  mix.Text.
-/
import Derived.Test.YtffhkdbdcpobbabMixDigits
import Derived.Test.YtffhkdbdcpobbabMixOne
namespace Go.Proofs.Ytffhkdbdcpobbab
open Go.RowKit
set_option maxRecDepth 100000

theorem digit_at (d : Nat) (h : d < 16) : ∀ h2, (digitsB[d]'h2) = hexD d := by
  intro h2
  have hc : ∀ k : Fin 16, digitsB[k.val]'(by have := k.isLt; show k.val < 16; exact this) = hexD k.val := by decide +kernel
  exact hc ⟨d, h⟩
theorem digit_raw (d : Nat) (h : d < 16) (h2) : ((⟨#[48, 49, 50, 51, 52, 53, 54, 55, 56, 57, 97, 98, 99, 100, 101, 102]⟩ : ByteArray)[d]'h2) = hexD d := digit_at d h h2

theorem row_any {W : World} {g : Nat} {l : List UInt8} {t : TypeId} (h : W.heap[g]? = some (.cells (l.map byteV).toArray t (0, 0))) : RdB W W.heap.size (some ⟨g, 0, none⟩) l := fun k x hx => by
  refine ⟨_, rfl, (Array.getElem?_eq_some_iff.1 h).1, ?_⟩
  have e : ((⟨g, 0, none⟩ : Addr).add k) = ⟨g, k, none⟩ := by unfold Addr.add; split <;> simp_all
  rw [e, cell_of_row _ _ _ _ _ _ h, List.getElem?_toArray, List.getElem?_map, hx]; rfl
set_option maxHeartbeats 4000000 in
theorem text_any (p : Nat × Nat) (w : World) (hp : Two p) :
    Calls Try.prog 7 #[stV p] w fun e w' => e = .returned (.string (ofL (textL p))) ∧ Below w.heap.size w w' := by
  obtain ⟨r0, r1, hB⟩ := two_rows w #[.int .u64 (p.1 : Nat), .int .u64 (p.2 : Nat)] (rowT 0 (numS p)).toArray 26 42
  rw [show stV p = .agg #[.int .u64 (p.1 : Nat), .int .u64 (p.2 : Nat)] from rfl]
  have hrow : (rowT 0 (numS p)).toArray = (List.replicate 32 (Value.int .u8 0)).toArray := by unfold rowT; simp [tailN]
  rw [hrow] at hB r1 r0
  go_enter Try.func7, Try.ntmps7
  go_wp2_with fail
  go_loopw [4, 5] (fun x i wr => ∃ k : Nat, k ≤ 32 ∧ i = .int .i64 k ∧ wr.heap[w.heap.size]? = some (.cells #[.int .u64 (hiS p k : Nat), .int .u64 (loS p k : Nat)] 26 (0, 0)) ∧ wr.heap[w.heap.size + 1]? = some (.cells (rowT k (numS p)).toArray 42 (0, 0)) ∧ Below w.heap.size w wr) (fun _ i _ => 32 - (intOf i).toNat)
  case atStart => exact ⟨0, by decide, rfl, by rw [hiS_zero p hp.2, loS_zero p hp.2]; exact r0, by rw [hrow]; exact r1, hB⟩
  case round =>
    clear r0 r1 hB hrow
    obtain ⟨k, hk, rfl, r0, r1, hB⟩ := hrel
    by_cases hlt : k < 32
    · have c0 : wr.cell? ⟨w.heap.size, 0, none⟩ = some (.int .u64 (hiS p k : Nat)) := cell_of_row _ _ _ _ _ _ r0
      have c1 : wr.cell? ⟨w.heap.size, 1, none⟩ = some (.int .u64 (loS p k : Nat)) := cell_of_row _ _ _ _ _ _ r0
      have f0 : wr.frozen? ⟨w.heap.size, 0, none⟩ = false := frozen_of_row _ _ _ _ _ r0
      have f1 : wr.frozen? ⟨w.heap.size, 1, none⟩ = false := frozen_of_row _ _ _ _ _ r0
      have d0 : wr.cell? ⟨w.heap.size + 1, 31 - k, none⟩ = some (.int .u8 0) := by rw [cell_of_row _ _ _ _ _ _ r1, List.getElem?_toArray]; exact rowT_at k (numS p) hlt
      have z0 : wr.frozen? ⟨w.heap.size + 1, 31 - k, none⟩ = false := frozen_of_row _ _ _ _ _ r1
      have g0 : (0 : Int) ≤ 31 - (k : Int) := by omega
      have g1 : (31 : Int) - k < 32 := by omega
      have g2 : ((31 : Int) - k).toNat = 31 - k := by omega
      have hlo : loS p k < 18446744073709551616 := Nat.mod_lt _ (by decide)
      have hbits := shift_bits (loS p k) (hiS p k) hlo
      rw [← loS_step] at hbits
      have hset := rowT_set k (numS p) hlt
      rw [digit_lo] at hset
      have hdg := digit_raw (loS p k % 16) (Nat.mod_lt _ (by decide))
      have hhs := hiS_step p k
      generalize hiS p k = hi at c0 hbits hhs r0
      generalize loS p k = lo at c1 hbits hset hdg hlo r0
      have hl0 : (0 : Int) ≤ (lo : Int) % 16 := by omega
      have hl1 : (lo : Int) % 16 < 16 := by omega
      have hl2 : ((lo : Int) % 16).toNat = lo % 16 := by omega
      go_wp2_with fail
      go_roundw
      case rel =>
        refine ⟨k + 1, hlt, rfl, ?_, ?_, ?_⟩
        · have q1 : (wr.setCell ⟨w.heap.size + 1, 31 - k, none⟩ (.int .u8 ((hexD (lo % 16)).toNat : Nat))).heap[w.heap.size]? = some (.cells #[.int .u64 (hi : Nat), .int .u64 (lo : Nat)] 26 (0, 0)) := by rw [Below.heap_setCell _ _ _ _ (by simp)]; exact r0
          rw [hhs]
          exact heap_setCell_same _ w.heap.size 0 _ _ _ (heap_setCell_same _ w.heap.size 1 _ _ _ q1)
        · rw [Below.heap_setCell _ _ _ _ (by simp), Below.heap_setCell _ _ _ _ (by simp)]
          have q2 := heap_setCell_same wr (w.heap.size + 1) (31 - k) _ _ (byteV (hexD (lo % 16))) r1
          rw [List.setIfInBounds_toArray, hset] at q2
          exact q2
        · exact ((hB.setCell (p := ⟨w.heap.size + 1, 31 - k, none⟩) (by simp) _).setCell (p := ⟨w.heap.size, 1, none⟩) (by simp) _).setCell (p := ⟨w.heap.size, 0, none⟩) (by simp) _
      case measure => simp [intOf]; omega
    · obtain rfl : k = 32 := by omega
      have hT := textL_eq p hp.2
      have hrw : rowT 32 (numS p) = (textL p).map byteV := by unfold rowT; rw [hT]; rfl
      rw [hrw] at r1
      have hcv := conv_any (row_any r1) 32
      rw [show (textL p).length = 32 by rw [← hT, tailN_len]] at hcv
      go_wp2_with fail
      refine bodyPost_ret (results_tmp rfl _ _ _) rfl ⟨rfl, hB⟩
end Go.Proofs.Ytffhkdbdcpobbab
