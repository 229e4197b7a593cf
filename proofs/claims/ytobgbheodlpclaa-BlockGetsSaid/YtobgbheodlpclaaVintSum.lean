/-
  vint.word and Sum: half a sum's bytes, and a sum's.
-/
import Derived.Test.YtobgbheodlpclaaAutoVintPut
import Derived.Deep.RegionWith
namespace Go.Proofs.Ytobgbheodlpclaa
open Go.RowKit
set_option maxRecDepth 100000

/-- The row behind k rounds: the last k bytes. -/
def rowW (n k : Nat) : List Value := (List.range 8).map fun j => if 8 ≤ j + k then .int .u8 ((n / 256 ^ (7 - j) % 256 : Nat) : Int) else .int .u8 0
theorem rowW_zero (n : Nat) : rowW n 0 = List.replicate 8 (Value.int .u8 0) := by simp [rowW, List.range, List.range.loop]
theorem rowW_at (n k j : Nat) (h : j < 8) : (rowW n k)[j]? = some (if 8 ≤ j + k then .int .u8 ((n / 256 ^ (7 - j) % 256 : Nat) : Int) else .int .u8 0) := by
  simp only [rowW, List.getElem?_map, List.getElem?_range h, Option.map_some]
theorem rowW_set (n k : Nat) (h : k < 8) : (rowW n k).set (7 - k) (.int .u8 ((n / 256 ^ k % 256 : Nat) : Int)) = rowW n (k + 1) := by
  apply List.ext_getElem?
  intro j
  rw [List.getElem?_set]
  by_cases hj : 7 - k = j
  · subst hj
    rw [if_pos rfl, if_pos (by simp [rowW]; omega), rowW_at _ _ _ (by omega), if_pos (by omega), show 7 - (7 - k) = k by omega]
  · rw [if_neg hj]
    by_cases h8 : j < 8
    · rw [rowW_at _ _ _ h8, rowW_at _ _ _ h8]
      by_cases hk : 8 ≤ j + k
      · rw [if_pos hk, if_pos (by omega)]
      · rw [if_neg hk, if_neg (by omega)]
    · simp [rowW, h8]
theorem rowW_full (n : Nat) : rowW n 8 = (wordL n).map byteV := by
  unfold rowW wordL
  rw [List.map_map]
  apply List.map_congr_left
  intro j _
  rw [if_pos (by omega)]
  show _ = byteV (UInt8.ofNat (n / 256 ^ (7 - j) % 256))
  unfold byteV
  rw [ofNat_small _ (Nat.mod_lt _ (by decide))]
theorem div_shift (n k : Nat) : ((n : Int) / 2 ^ (8 * k) % 256) = ((n / 256 ^ k % 256 : Nat) : Int) := by
  rw [show (2 : Int) ^ (8 * k) = ((256 ^ k : Nat) : Int) by rw [Int.pow_mul]; simp]
  omega
/-- Half a sum's cells. -/
def wordCells (n : Nat) : Array Value := (rowW n 8).toArray

set_option maxHeartbeats 4000000 in
theorem half_any (n : Nat) (w : World) (hn : n < 18446744073709551616) :
    Calls Try.prog 133 #[.int .u64 n] w fun e w' => e = .returned (.slice (some ⟨w.heap.size, 0, none⟩) 8 8) ∧ w' = w.alloc (.cells (wordCells n) 5) := by
  have hN : (n : Int) ≤ 18446744073709551615 := by omega
  have h0 : (0 : Int) ≤ n := by omega
  have hmk : (Instr.makeSlice 22 (.int .i64 8) (.int .i64 8)).run Try.prog w = .ok (.slice (some ⟨w.heap.size, 0, none⟩) 8 8) (w.alloc (.cells (rowW n 0).toArray 5)) := by
    rw [rowW_zero]
    have h : ∀ w : World, (Instr.makeSlice 22 (.int .i64 8) (.int .i64 8)).run Try.prog w = .ok (.slice (some ⟨w.heap.size, 0, none⟩) 8 8) (w.alloc (.cells (List.replicate 8 (Value.int .u8 0)).toArray 5)) := fun w => by kernel_rfl
    exact h w
  obtain ⟨wx, hwx⟩ : ∃ wx, wx = w.alloc (.cells (rowW n 0).toArray 5) := ⟨_, rfl⟩
  rw [← hwx] at hmk
  have HX := hide hwx
  clear hwx
  go_enter Try.func133, Try.ntmps133
  go_wp2_with fail
  go_loopw [4, 8] (fun _ i wr => ∃ k : Nat, k ≤ 8 ∧ i = .int .i64 k ∧ Hid (wr = w.alloc (.cells (rowW n k).toArray 5))) (fun _ i _ => 8 - (intOf i).toNat)
  case atStart => exact ⟨0, by decide, rfl, HX⟩
  case round =>
    obtain ⟨k, hk, rfl, HW⟩ := hrel
    by_cases hlt : (k : Int) < 8
    · have hnew : wr.heap[w.heap.size]? = some (.cells (rowW n k).toArray 5 (0, 0)) := by rw [HW.out]; exact World.alloc_heap_new _ _
      have hc : wr.cell? ⟨w.heap.size, 7 - k, none⟩ = some (.int .u8 0) := by
        rw [cell_of_row _ _ _ _ _ _ hnew]
        rw [List.getElem?_toArray, rowW_at _ _ _ (by omega), if_neg (by omega)]
      have hf : wr.frozen? ⟨w.heap.size, 7 - k, none⟩ = false := frozen_of_row _ _ _ _ _ hnew
      have HV := hide (div_shift n k)
      have g0 : (0 : Int) ≤ 7 - (k : Int) := by omega
      have g1 : (7 : Int) - k < 8 := by omega
      have g2 : ((7 : Int) - k).toNat = 7 - k := by omega
      clear hnew
      go_wp2_with fail
      go_roundw
      case rel =>
        refine ⟨k + 1, by omega, rfl, ?_⟩
        rw [HV.out, HW.out]
        show _ = _
        rw [World.setCell_alloc_at _ _ _ _ _ rfl, ← rowW_set n k (by omega)]
        simp
      case measure => simp [intOf]; omega
    · obtain rfl : k = 8 := by omega
      go_wp2_with fail
      refine bodyPost_ret (results_tmp rfl _ _ _) rfl ⟨rfl, HW.out⟩

theorem wordL_len (n : Nat) : (wordL n).length = 8 := by simp [wordL]
theorem word_rd (W : World) (n : Nat) : RdB (W.alloc (.cells (wordCells n) 5)) (W.alloc (.cells (wordCells n) 5)).heap.size (some ⟨W.heap.size, 0, none⟩) (wordL n) := fun k x hx => by
  refine ⟨_, rfl, by simp, ?_⟩
  have e : ((⟨W.heap.size, 0, none⟩ : Addr).add k) = ⟨W.heap.size, k, none⟩ := by unfold Addr.add; split <;> simp_all
  rw [e, cell_of_row _ _ _ _ _ _ (World.alloc_heap_new W _)]
  unfold wordCells
  rw [List.getElem?_toArray, rowW_full, List.getElem?_map, hx]; rfl
theorem RdB.alloc {W : World} {A : Option Addr} {l : List UInt8} (h : RdB W W.heap.size A l) (o : Obj) : RdB (W.alloc o) (W.alloc o).heap.size A l := h.step ((Below.refl _ W).alloc (Nat.le_refl _) o)
theorem RdB.drew {w : World} {A : Option Addr} {l : List UInt8} (h : RdB w w.heap.size A l) : RdB w.drew w.drew.heap.size A l := h

theorem cat_sum (A B D : Option Addr) (l : List UInt8) (c hi lo : Nat) (w : World) (hA : RdB w w.heap.size A l) (hB : RdB w w.heap.size B (wordL hi)) (hD : RdB w w.heap.size D (wordL lo)) (hl : l.length ≤ 1000000) :
    Calls Try.prog 131 #[.slice (some ⟨w.heap.size, 0, none⟩) 3 3] (w.alloc (.cells #[.slice A l.length c, .slice B 8 8, .slice D 8 8] 22)) (Bytes w (l ++ (wordL hi ++ wordL lo))) := by
  have h := cat_three A B D l (wordL hi) (wordL lo) c 8 8 w hA hB hD hl (by rw [wordL_len]; decide) (by rw [wordL_len]; decide) 22
  rw [wordL_len, wordL_len, List.append_assoc] at h
  exact h

theorem cat_sum_at (A B D : Option Addr) (l : List UInt8) (c hi lo N : Nat) (W : World) (hN : W.heap.size = N) (hA : RdB W W.heap.size A l) (hB : RdB W W.heap.size B (wordL hi)) (hD : RdB W W.heap.size D (wordL lo)) (hl : l.length ≤ 1000000) :
    Calls Try.prog 131 #[.slice (some ⟨N, 0, none⟩) 3 3] (W.alloc (.cells #[.slice A l.length c, .slice B 8 8, .slice D 8 8] 22)).drew (Bytes W (l ++ (wordL hi ++ wordL lo))) := by
  subst hN
  have h : Calls Try.prog 131 #[.slice (some ⟨W.heap.size, 0, none⟩) 3 3] (W.alloc (.cells #[.slice A l.length c, .slice B 8 8, .slice D 8 8] 22)).drew (Bytes W.drew (l ++ (wordL hi ++ wordL lo))) := cat_sum A B D l c hi lo W.drew hA.drew hB.drew hD.drew hl
  exact h.mono fun e w' hh => hh.back (Below.refl _ W).drew

set_option maxHeartbeats 400000 in
theorem putSum_any (A : Option Addr) (l : List UInt8) (c hi lo : Nat) (w : World) (hR : RdB w w.heap.size A l) (hl : l.length ≤ 1000000) (h1 : hi < 18446744073709551616) (h2 : lo < 18446744073709551616) :
    Calls Try.prog 108 #[.slice A l.length c, .agg #[.int .u64 hi, .int .u64 lo]] w (Bytes w (l ++ (wordL hi ++ wordL lo))) := by
  have H1 := hide h1
  have H2 := hide h2
  have hb : ∀ X Y : Array Value, Below w.heap.size w (((w.alloc (.cells #[.int .u64 hi, .int .u64 lo] 28)).alloc (.cells X 5)).alloc (.cells Y 5)) := fun X Y =>
    (((Below.refl _ w).alloc (Nat.le_refl _) _).alloc (by simp) _).alloc (by simp; omega) _
  have HA := hide (cat_sum_at A (some ⟨w.heap.size + 1, 0, none⟩) (some ⟨w.heap.size + 1 + 1, 0, none⟩) l c hi lo (w.heap.size + 1 + 1 + 1) (((w.alloc (.cells #[.int .u64 hi, .int .u64 lo] 28)).alloc (.cells (wordCells hi) 5)).alloc (.cells (wordCells lo) 5)) (by simp)
    (((hR.alloc _).alloc _).alloc _)
    (by have := (word_rd (w.alloc (.cells #[.int .u64 hi, .int .u64 lo] 28)) hi).alloc (.cells (wordCells lo) 5); simpa using this)
    (by have := word_rd ((w.alloc (.cells #[.int .u64 hi, .int .u64 lo] 28)).alloc (.cells (wordCells hi) 5)) lo; simpa using this) hl)
  have HB := hide (cat_sum_at A (some ⟨w.heap.size + 1 + 1, 0, none⟩) (some ⟨w.heap.size + 1, 0, none⟩) l c hi lo (w.heap.size + 1 + 1 + 1) (((w.alloc (.cells #[.int .u64 hi, .int .u64 lo] 28)).alloc (.cells (wordCells lo) 5)).alloc (.cells (wordCells hi) 5)) (by simp)
    (((hR.alloc _).alloc _).alloc _)
    (by have := word_rd ((w.alloc (.cells #[.int .u64 hi, .int .u64 lo] 28)).alloc (.cells (wordCells lo) 5)) hi; simpa using this)
    (by have := (word_rd (w.alloc (.cells #[.int .u64 hi, .int .u64 lo] 28)) lo).alloc (.cells (wordCells hi) 5); simpa using this) hl)
  have hb1 := hide (hb (wordCells hi) (wordCells lo))
  have hb2 := hide (hb (wordCells lo) (wordCells hi))
  clear hR h1 h2 hb
  go_enter Try.func108, Try.ntmps108
  go_wp2_with fail
  go_region_with (first
    | (go_at_call 133; ((with_reducible refine (half_any hi _ H1.out).mono ?_); rintro en w4 ⟨rfl, rfl⟩))
    | (go_at_call 133; ((with_reducible refine (half_any lo _ H2.out).mono ?_); rintro en w4 ⟨rfl, rfl⟩))
    | (go_at_call 131; ((with_reducible refine HA.out.mono ?_); rintro en w5 hw5; have hx := hw5.back hb1.out; obtain ⟨E, ec, rfl, g1, g2, g3⟩ := hx))
    | (go_at_call 131; ((with_reducible refine HB.out.mono ?_); rintro en w5 hw5; have hx := hw5.back hb2.out; obtain ⟨E, ec, rfl, g1, g2, g3⟩ := hx)))
  all_goals
    go_wp2_with fail
    refine bodyPost_ret (results_tmp rfl _ _ _) rfl ⟨E, ec, by simp only [List.length_append, wordL_len]; rfl, g1, g2, g3⟩
end Go.Proofs.Ytobgbheodlpclaa
