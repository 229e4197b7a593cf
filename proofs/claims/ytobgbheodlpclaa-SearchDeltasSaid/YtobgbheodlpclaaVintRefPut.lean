/-
  The reference's Num, Text and Sum: the bytes of a number, a text and a sum.
-/
import Derived.Test.YtobgbheodlpclaaAutoVintSum
namespace Go.Proofs.Ytobgbheodlpclaa
open Go.RowKit
set_option maxRecDepth 100000

theorem groups_one (f m : Nat) (h : m < 128) : groupsF f m = [UInt8.ofNat m] := by
  cases f with
  | zero => rfl
  | succ f => unfold groupsF; rw [if_pos h]
theorem groups_more (f m : Nat) (h : ¬ m < 128) : groupsF (f + 1) m = UInt8.ofNat (m % 128 + 128) :: groupsF f (m / 128) := by
  conv => lhs; unfold groupsF
  rw [if_neg h]
/-- A call's answer: a text of these bytes. -/
def TextIs (w0 : World) (l : List UInt8) (e : Ending) (w' : World) : Prop := e = .returned (.string (ofL l)) ∧ Below w0.heap.size w0 w'

set_option maxHeartbeats 4000000 in
theorem refNum_any (n : Nat) (w : World) (hn : n < 18446744073709551616) :
    Calls Try.prog 75 #[.int .u64 n] w (TextIs w (groupsL n)) := by
  obtain ⟨i0, hi, hz0, hz1, hz2⟩ := info_parts info_byte
  have hnp : n < 128 ^ 10 := Nat.lt_of_lt_of_le hn (by decide)
  have hN : (n : Int) ≤ 18446744073709551615 := by omega
  go_enter Try.func75, Try.ntmps75
  go_wp2_with fail
  go_loopw [0, 3, 4] (fun x v i wr => ∃ (k m : Nat) (ol : List UInt8) (A : Option Addr) (c : Nat), k ≤ 9 ∧ i = .int .i64 k ∧ x = .int .u64 m ∧ m < 128 ^ (10 - k) ∧ m < 18446744073709551616 ∧ v = .slice A ol.length c ∧ ol.length ≤ k ∧ Hid (groupsL n = ol ++ groupsF (9 - k) m) ∧
      wr.ownsRow w.heap.size 5 1 v ol.length (ol.map byteV) ∧ Below w.heap.size w wr) (fun _ _ i _ => 10 - (intOf i).toNat)
  case atStart => exact ⟨0, n, [], some ⟨w.heap.size, 0, none⟩, 0, by decide, rfl, rfl, hnp, hn, rfl, by simp, hide rfl, World.ownsRow_lit w _ _ (Nat.le_refl _) (by decide) rfl, (Below.refl _ _).alloc (Nat.le_refl _) _⟩
  case round =>
    obtain ⟨k, m, ol, A, c, hk, rfl, rfl, hm, hm64, rfl, hol, HG, hO, hB⟩ := hrel
    have hk10 : (k : Int) < 10 := by omega
    have hmi : (m : Int) ≤ 18446744073709551615 := by omega
    have hmi0 : (0 : Int) ≤ m := by omega
    have hsz := hB.size
    by_cases h128 : m < 128
    · have q0 : (m : Int) / 128 = 0 := by omega
      have q1 : (m : Int) % 128 = m := by omega
      have HE := hide (show groupsL n = ol ++ [UInt8.ofNat m] by rw [HG.out, groups_one _ _ h128])
      have hv : byteV (UInt8.ofNat m) = .int .u8 m := by unfold byteV; rw [ofNat_small _ (by omega)]
      go_wp2_with (at_builtin; refine wpList_append_own _ rfl _ _ 22 rfl w.heap.size 5 i0 (.int .u8 0) 1 1 Try.underlying22 hi hz0 hz1 hz2 rfl (by decide) _ _ _ rfl (hO.alloc _) ⟨wr.heap.size, 0, none⟩ 1 1 [.int .u8 m] rfl rfl (cell_one_new _ _ _) (by simp [Value.oneCell']) (by unfold maxLen; omega) (by omega) (by simp; omega) ?_)
      intro v' w' hO' hg hnil
      obtain ⟨g', cap', rfl⟩ := ownsRow_succ hO'
      have hO2 : w'.ownsRow w.heap.size 5 1 (.slice (some ⟨g', 0, none⟩) (ol.length + 1) cap') (ol.length + 1) ((ol ++ [UInt8.ofNat m]).map byteV) := by rw [List.map_append, List.map_cons, List.map_nil, hv]; exact hO'
      have hB' := (hB.alloc hB.size _).grown hg (by simp; omega) (fun r e => (hO.lt r e).1)
      have hcv := conv_any (RdB.own hO2) cap'
      rw [← HE.out] at hcv
      rw [show (groupsL n).length = ol.length + 1 by rw [HE.out]; simp] at hcv
      clear hO hO' hO2 hg hv q0 q1 hnil
      go_wp2_with fail
      refine bodyPost_ret (results_tmp rfl _ _ _) rfl ⟨rfl, hB'⟩
    · have hk9 : k ≠ 9 := by rintro rfl; exact h128 (by simpa using hm)
      have q0 : ((m : Int) / 128 == 0) = false := by rw [beq_eq_false_iff_ne]; omega
      have q2 : (0 : Int) ≤ (m : Int) % 128 := by omega
      have q3 : (m : Int) % 128 < 128 := by omega
      have HE := hide (show groupsL n = (ol ++ [UInt8.ofNat (m % 128 + 128)]) ++ groupsF (9 - (k + 1)) (m / 128) by
        rw [HG.out, show 9 - k = (9 - (k + 1)) + 1 by omega, groups_more _ _ h128]; simp)
      have hv : byteV (UInt8.ofNat (m % 128 + 128)) = .int .u8 ((m : Int) % 128 + 128) := by unfold byteV; rw [ofNat_small _ (by omega)]; rfl
      have hnext : m / 128 < 128 ^ (10 - (k + 1)) := by
        rw [Nat.div_lt_iff_lt_mul (by decide), ← Nat.pow_succ, show (10 - (k + 1)).succ = 10 - k by omega]; exact hm
      go_wp2_with (at_builtin; refine wpList_append_own _ rfl _ _ 22 rfl w.heap.size 5 i0 (.int .u8 0) 1 1 Try.underlying22 hi hz0 hz1 hz2 rfl (by decide) _ _ _ rfl (hO.alloc _) ⟨wr.heap.size, 0, none⟩ 1 1 [.int .u8 ((m : Int) % 128 + 128)] rfl rfl (cell_one_new _ _ _) (by simp [Value.oneCell']) (by unfold maxLen; omega) (by omega) (by simp; omega) ?_)
      intro v' w' hO' hg hnil
      obtain ⟨g', cap', rfl⟩ := ownsRow_succ hO'
      have HO2 := hide (show w'.ownsRow w.heap.size 5 1 (.slice (some ⟨g', 0, none⟩) (ol ++ [UInt8.ofNat (m % 128 + 128)]).length cap') (ol ++ [UInt8.ofNat (m % 128 + 128)]).length ((ol ++ [UInt8.ofNat (m % 128 + 128)]).map byteV) by
        rw [List.map_append, List.map_cons, List.map_nil, hv, List.length_append]; exact hO')
      have hB' := (hB.alloc hB.size _).grown hg (by simp; omega) (fun r e => (hO.lt r e).1)
      clear hO hO' hg hv hnil
      go_wp2_with fail
      go_roundw
      case rel => exact ⟨k + 1, m / 128, ol ++ [UInt8.ofNat (m % 128 + 128)], some ⟨g', 0, none⟩, cap', by omega, rfl, rfl, hnext, by omega, by simp, by simp; omega, HE, by simpa using HO2.out, hB'⟩
      case measure => simp [intOf]; omega

theorem ofL_app (l : List UInt8) (s : ByteArray) : ofL l ++ s = ofL (l ++ toL s) := by
  apply toL_inj
  simp [toL, ofL]

set_option maxHeartbeats 1000000 in
theorem refText_any (s : ByteArray) (w : World) (hs : s.size ≤ 1000000) :
    Calls Try.prog 89 #[.string s] w (TextIs w (groupsL s.size ++ toL s)) := by
  have hsi : (s.size : Int) ≤ 1000000 := by omega
  have hgl := groupsL_le s.size
  go_enter Try.func89, Try.ntmps89
  go_wp2_with fail
  refine (refNum_any s.size w (by omega)).mono ?_
  rintro e w1 ⟨rfl, hB1⟩
  have q1 : ¬ 9223372036854775807 < (ofL (groupsL s.size)).size + s.size := by rw [ofL_size]; omega
  go_wp2_with fail
  refine bodyPost_ret (results_tmp rfl _ _ _) rfl ⟨by rw [← ofL_app]; rfl, hB1⟩

/-- The row of a sum's bytes behind k rounds. -/
def rowS (hi lo k : Nat) : List Value := rowW hi k ++ rowW lo k
theorem rowW_len (n k : Nat) : (rowW n k).length = 8 := by simp [rowW]
theorem rowS_at1 (hi lo k j : Nat) (h : j < 8) : (rowS hi lo k)[j]? = (rowW hi k)[j]? := by unfold rowS; rw [List.getElem?_append_left (by rw [rowW_len]; exact h)]
theorem rowS_set (hi lo k : Nat) (h : k < 8) : ((rowS hi lo k).set (7 - k) (.int .u8 ((hi / 256 ^ k % 256 : Nat) : Int))).set (8 + (7 - k)) (.int .u8 ((lo / 256 ^ k % 256 : Nat) : Int)) = rowS hi lo (k + 1) := by
  unfold rowS
  rw [List.set_append_left _ _ (by rw [rowW_len]; omega), rowW_set hi k h, List.set_append_right _ _ (by rw [rowW_len]; omega), rowW_len, show 8 + (7 - k) - 8 = 7 - k by omega, rowW_set lo k h]
theorem rowS_full (hi lo : Nat) : rowS hi lo 8 = (wordL hi ++ wordL lo).map byteV := by unfold rowS; rw [rowW_full, rowW_full, List.map_append]

theorem two_cells (W : World) (r : List Value) (t : TypeId) (n i j m : Nat) (a b : Value) (hm : m = W.heap.size) :
    (((W.alloc (.cells r.toArray t)).drewN n).setCell ⟨m, i, none⟩ a).setCell ⟨m, j, none⟩ b = (W.alloc (.cells ((r.set i a).set j b).toArray t)).drewN n := by
  show (((W.alloc (.cells r.toArray t)).setCell ⟨m, i, none⟩ a).setCell ⟨m, j, none⟩ b).drewN n = _
  rw [World.setCell_alloc_at _ _ _ _ _ hm, World.setCell_alloc_at _ _ _ _ _ hm]
  simp
theorem row_rd {W : World} {g : Nat} {l : List UInt8} (h : W.heap[g]? = some (.cells (l.map byteV).toArray 5 (0, 0))) : RdB W W.heap.size (some ⟨g, 0, none⟩) l := fun k x hx => by
  refine ⟨_, rfl, (Array.getElem?_eq_some_iff.1 h).1, ?_⟩
  have e : ((⟨g, 0, none⟩ : Addr).add k) = ⟨g, k, none⟩ := by unfold Addr.add; split <;> simp_all
  rw [e, cell_of_row _ _ _ _ _ _ h, List.getElem?_toArray, List.getElem?_map, hx]; rfl

set_option maxHeartbeats 4000000 in
theorem refSum_any (hi lo : Nat) (w : World) (h1 : hi < 18446744073709551616) (h2 : lo < 18446744073709551616) :
    Calls Try.prog 76 #[.agg #[.int .u64 hi, .int .u64 lo]] w (TextIs w (wordL hi ++ wordL lo)) := by
  have hB0 : Below w.heap.size w (w.alloc (.cells #[.int .u64 hi, .int .u64 lo] 28)) := (Below.refl _ w).alloc (Nat.le_refl _) _
  have hrow := World.alloc_heap_new w (Obj.cells #[.int .u64 hi, .int .u64 lo] 28)
  obtain ⟨w0, hw0⟩ : ∃ w0, w0 = w.alloc (.cells #[.int .u64 hi, .int .u64 lo] 28) := ⟨_, rfl⟩
  rw [← hw0] at hB0 hrow
  have hmk : (Instr.makeSlice 22 (.int .i64 16) (.int .i64 16)).run Try.prog w0 = .ok (.slice (some ⟨w0.heap.size, 0, none⟩) 16 16) (w0.alloc (.cells (rowS hi lo 0).toArray 5)) := by
    rw [show rowS hi lo 0 = List.replicate 16 (Value.int .u8 0) by unfold rowS; rw [rowW_zero, rowW_zero]; rfl]
    have h : ∀ w : World, (Instr.makeSlice 22 (.int .i64 16) (.int .i64 16)).run Try.prog w = .ok (.slice (some ⟨w.heap.size, 0, none⟩) 16 16) (w.alloc (.cells (List.replicate 16 (Value.int .u8 0)).toArray 5)) := fun w => by kernel_rfl
    exact h w0
  have hlt : w.heap.size < w0.heap.size := (Array.getElem?_eq_some_iff.1 hrow).1
  have hrow1 : (w0.alloc (.cells (rowS hi lo 0).toArray 5)).heap[w.heap.size]? = some (.cells #[.int .u64 hi, .int .u64 lo] 28 (0, 0)) := by rw [Below.heap_alloc _ _ _ hlt]; exact hrow
  obtain ⟨wx, hwx⟩ : ∃ wx, wx = w0.alloc (.cells (rowS hi lo 0).toArray 5) := ⟨_, rfl⟩
  rw [← hwx] at hmk hrow1
  have HX := hide hwx
  clear hwx hrow
  have c0 : wx.cell? ⟨w.heap.size, 0, none⟩ = some (.int .u64 hi) := cell_of_row _ _ _ _ _ _ hrow1
  have c1 : wx.cell? ⟨w.heap.size, 1, none⟩ = some (.int .u64 lo) := cell_of_row _ _ _ _ _ _ hrow1
  clear hrow1
  have hs0 : w0.heap.size = w.heap.size + 1 := by rw [hw0]; simp
  rw [hs0] at hmk
  rw [hw0] at hmk
  have H0 := hide hw0
  have HS0 := hide hs0
  clear hw0 hs0
  go_enter Try.func76, Try.ntmps76
  go_wp2_with fail
  go_quiet (fail)
  go_wp2_with fail
  clear c0 c1 hmk
  go_loopw [4, 5, 6] (fun x y i wr => ∃ k : Nat, k ≤ 8 ∧ i = .int .i64 (7 - (k : Int)) ∧ x = .int .u64 ((hi / 256 ^ k : Nat) : Int) ∧ y = .int .u64 ((lo / 256 ^ k : Nat) : Int) ∧ Hid (wr = (w0.alloc (.cells (rowS hi lo k).toArray 5)).drewN nq)) (fun _ _ i _ => (intOf i + 1).toNat)
  case atStart => exact ⟨0, by decide, rfl, by simp, by simp, hide (by rw [HX.out])⟩
  case round =>
    obtain ⟨k, hk, rfl, rfl, rfl, HW⟩ := hrel
    have hnew : wr.heap[w.heap.size + 1]? = some (.cells (rowS hi lo k).toArray 5 (0, 0)) := by
      rw [HW.out, ← HS0.out]
      exact World.alloc_heap_new _ _
    by_cases hlt8 : k < 8
    · have hp : hi / 256 ^ k < 18446744073709551616 := Nat.lt_of_le_of_lt (Nat.div_le_self _ _) h1
      have hq : lo / 256 ^ k < 18446744073709551616 := Nat.lt_of_le_of_lt (Nat.div_le_self _ _) h2
      have e1 : hi / 256 ^ (k + 1) = hi / 256 ^ k / 256 := by rw [Nat.pow_succ, Nat.div_div_eq_div_mul]
      have e2 : lo / 256 ^ (k + 1) = lo / 256 ^ k / 256 := by rw [Nat.pow_succ, Nat.div_div_eq_div_mul]
      have hset := rowS_set hi lo k hlt8
      have HC := hide (show ∃ v, (rowS hi lo k)[7 - k]? = some v from ⟨_, by rw [rowS_at1 _ _ _ _ (by omega), rowW_at _ _ _ (by omega)]⟩)
      obtain ⟨v1, hv1⟩ := HC.out
      have hv2 : ∃ v, (rowS hi lo k)[8 + (7 - k)]? = some v := ⟨_, by unfold rowS; rw [List.getElem?_append_right (by rw [rowW_len]; omega), rowW_len, show 8 + (7 - k) - 8 = 7 - k by omega, rowW_at _ _ _ (by omega)]⟩
      obtain ⟨v2, hv2⟩ := hv2
      have c1 : wr.cell? ⟨w.heap.size + 1, 7 - k, none⟩ = some v1 := by rw [cell_of_row _ _ _ _ _ _ hnew, List.getElem?_toArray]; exact hv1
      have c2 : wr.cell? ⟨w.heap.size + 1, 8 + (7 - k), none⟩ = some v2 := by rw [cell_of_row _ _ _ _ _ _ hnew, List.getElem?_toArray]; exact hv2
      have f1 : wr.frozen? ⟨w.heap.size + 1, 7 - k, none⟩ = false := frozen_of_row _ _ _ _ _ hnew
      have f2 : wr.frozen? ⟨w.heap.size + 1, 8 + (7 - k), none⟩ = false := frozen_of_row _ _ _ _ _ hnew
      have g0 : (0 : Int) ≤ 7 - (k : Int) := by omega
      have g1 : (7 : Int) - k < 16 := by omega
      have g2 : ((7 : Int) - k).toNat = 7 - k := by omega
      have g3 : (0 : Int) ≤ 8 + (7 - (k : Int)) := by omega
      have g4 : 8 + ((7 : Int) - k) < 16 := by omega
      have g5 : (8 + ((7 : Int) - k)).toNat = 8 + (7 - k) := by omega
      have HH := hide (And.intro hset (And.intro e1 e2))
      clear hset e1 e2 hv1 hv2 hnew
      generalize hi / 256 ^ k = p at hp HH ⊢
      generalize lo / 256 ^ k = q at hq HH ⊢
      have p0 : (0 : Int) ≤ p := by omega
      have p1 : (p : Int) ≤ 18446744073709551615 := by omega
      have q0 : (0 : Int) ≤ q := by omega
      have q1 : (q : Int) ≤ 18446744073709551615 := by omega
      go_wp2_with fail
      go_roundw
      case rel =>
        refine ⟨k + 1, by omega, by rw [show (7 : Int) - k - 1 = 7 - ((k + 1 : Nat) : Int) by omega], by rw [HH.out.2.1]; rfl, by rw [HH.out.2.2]; rfl, hide ?_⟩
        rw [HW.out, two_cells w0 _ _ _ _ _ _ _ _ HS0.out.symm]
        exact congrArg (fun r => (w0.alloc (.cells (List.toArray r) 5)).drewN nq) HH.out.1
      case measure => simp [intOf]; omega
    · obtain rfl : k = 8 := by omega
      rw [rowS_full] at hnew
      have hcv := conv_any (row_rd hnew) 16
      rw [show (wordL hi ++ wordL lo).length = 16 by rw [List.length_append, wordL_len, wordL_len]] at hcv
      have hB := hide (show Below w.heap.size w wr by rw [HW.out]; exact below_drewN (hB0.alloc hB0.size _) nq)
      clear hnew
      go_wp2_with fail
      refine bodyPost_ret (results_tmp rfl _ _ _) rfl ⟨rfl, hB.out⟩
end Go.Proofs.Ytobgbheodlpclaa
