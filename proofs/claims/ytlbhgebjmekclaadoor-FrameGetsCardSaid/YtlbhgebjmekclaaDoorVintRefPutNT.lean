/-
  The reference's bytes of a number and of a text.
-/
import Derived.Test.YtlbhgebjmekclaaDoorVintPut
namespace Go.Proofs.YtlbhgebjmekclaaDoor
open Go.RowKit
set_option maxRecDepth 100000

theorem groups_one (f m : Nat) (h : m < 128) : groupsF f m = [UInt8.ofNat m] := by
  cases f with
  | zero => rfl
  | succ f => unfold groupsF; rw [if_pos h]
theorem groups_more (f m : Nat) (h : ¬ m < 128) : groupsF (f + 1) m = UInt8.ofNat (m % 128 + 128) :: groupsF f (m / 128) := by
  conv => lhs; unfold groupsF
  rw [if_neg h]
/-- A call's answer: a text of these bytes. -/
def TextIs (w0 : World) (l : List UInt8) (e : Ending) (w' : World) : Prop := e = .returned (.string (ofL l)) ∧ Below w0.heap.size w0 w'

set_option maxHeartbeats 4000000 in
theorem refNum_any (n : Nat) (w : World) (hn : n < 18446744073709551616) :
    Calls Tryd.prog 22 #[.int .u64 n] w (TextIs w (groupsL n)) := by
  obtain ⟨i0, hi, hz0, hz1, hz2⟩ := info_parts info_byte
  have hnp : n < 128 ^ 10 := Nat.lt_of_lt_of_le hn (by decide)
  have hN : (n : Int) ≤ 18446744073709551615 := by omega
  go_enter Tryd.func22, Tryd.ntmps22
  go_wp2_with fail
  go_loopw [0, 3, 4] (fun x v i wr => ∃ (k m : Nat) (ol : List UInt8) (A : Option Addr) (c : Nat), k ≤ 9 ∧ i = .int .i64 k ∧ x = .int .u64 m ∧ m < 128 ^ (10 - k) ∧ m < 18446744073709551616 ∧ v = .slice A ol.length c ∧ ol.length ≤ k ∧ Hid (groupsL n = ol ++ groupsF (9 - k) m) ∧
      wr.ownsRow w.heap.size 5 1 v ol.length (ol.map byteV) ∧ Below w.heap.size w wr) (fun _ _ i _ => 10 - (intOf i).toNat)
  case atStart => exact ⟨0, n, [], some ⟨w.heap.size, 0, none⟩, 0, by decide, rfl, rfl, hnp, hn, rfl, by simp, hide rfl, World.ownsRow_lit w _ _ (Nat.le_refl _) (by decide) rfl, (Below.refl _ _).alloc (Nat.le_refl _) _⟩
  case round =>
    obtain ⟨k, m, ol, A, c, hk, rfl, rfl, hm, hm64, rfl, hol, HG, hO, hB⟩ := hrel
    have hk10 : (k : Int) < 10 := by omega
    have hmi : (m : Int) ≤ 18446744073709551615 := by omega
    have hmi0 : (0 : Int) ≤ m := by omega
    have hsz := hB.size
    by_cases h128 : m < 128
    · have q0 : (m : Int) / 128 = 0 := by omega
      have q1 : (m : Int) % 128 = m := by omega
      have HE := hide (show groupsL n = ol ++ [UInt8.ofNat m] by rw [HG.out, groups_one _ _ h128])
      have hv : byteV (UInt8.ofNat m) = .int .u8 m := by unfold byteV; rw [ofNat_small _ (by omega)]
      go_wp2_with (at_builtin; refine wpList_append_own _ rfl _ _ 28 rfl w.heap.size 5 i0 (.int .u8 0) 1 1 Tryd.underlying28 hi hz0 hz1 hz2 rfl (by decide) _ _ _ rfl (hO.alloc _) ⟨wr.heap.size, 0, none⟩ 1 1 [.int .u8 m] rfl rfl (cell_one_new _ _ _) (by simp [Value.oneCell']) (by unfold maxLen; omega) (by omega) (by simp; omega) ?_)
      intro v' w' hO' hg hnil
      obtain ⟨g', cap', rfl⟩ := ownsRow_succ hO'
      have hO2 : w'.ownsRow w.heap.size 5 1 (.slice (some ⟨g', 0, none⟩) (ol.length + 1) cap') (ol.length + 1) ((ol ++ [UInt8.ofNat m]).map byteV) := by rw [List.map_append, List.map_cons, List.map_nil, hv]; exact hO'
      have hB' := (hB.alloc hB.size _).grown hg (by simp; omega) (fun r e => (hO.lt r e).1)
      have hcv := conv_any (RdB.own hO2) cap'
      rw [← HE.out] at hcv
      rw [show (groupsL n).length = ol.length + 1 by rw [HE.out]; simp] at hcv
      clear hO hO' hO2 hg hv q0 q1 hnil
      go_wp2_with fail
      refine bodyPost_ret (results_tmp rfl _ _ _) rfl ⟨rfl, hB'⟩
    · have hk9 : k ≠ 9 := by rintro rfl; exact h128 (by simpa using hm)
      have q0 : ((m : Int) / 128 == 0) = false := by rw [beq_eq_false_iff_ne]; omega
      have q2 : (0 : Int) ≤ (m : Int) % 128 := by omega
      have q3 : (m : Int) % 128 < 128 := by omega
      have HE := hide (show groupsL n = (ol ++ [UInt8.ofNat (m % 128 + 128)]) ++ groupsF (9 - (k + 1)) (m / 128) by
        rw [HG.out, show 9 - k = (9 - (k + 1)) + 1 by omega, groups_more _ _ h128]; simp)
      have hv : byteV (UInt8.ofNat (m % 128 + 128)) = .int .u8 ((m : Int) % 128 + 128) := by unfold byteV; rw [ofNat_small _ (by omega)]; rfl
      have hnext : m / 128 < 128 ^ (10 - (k + 1)) := by
        rw [Nat.div_lt_iff_lt_mul (by decide), ← Nat.pow_succ, show (10 - (k + 1)).succ = 10 - k by omega]; exact hm
      go_wp2_with (at_builtin; refine wpList_append_own _ rfl _ _ 28 rfl w.heap.size 5 i0 (.int .u8 0) 1 1 Tryd.underlying28 hi hz0 hz1 hz2 rfl (by decide) _ _ _ rfl (hO.alloc _) ⟨wr.heap.size, 0, none⟩ 1 1 [.int .u8 ((m : Int) % 128 + 128)] rfl rfl (cell_one_new _ _ _) (by simp [Value.oneCell']) (by unfold maxLen; omega) (by omega) (by simp; omega) ?_)
      intro v' w' hO' hg hnil
      obtain ⟨g', cap', rfl⟩ := ownsRow_succ hO'
      have HO2 := hide (show w'.ownsRow w.heap.size 5 1 (.slice (some ⟨g', 0, none⟩) (ol ++ [UInt8.ofNat (m % 128 + 128)]).length cap') (ol ++ [UInt8.ofNat (m % 128 + 128)]).length ((ol ++ [UInt8.ofNat (m % 128 + 128)]).map byteV) by
        rw [List.map_append, List.map_cons, List.map_nil, hv, List.length_append]; exact hO')
      have hB' := (hB.alloc hB.size _).grown hg (by simp; omega) (fun r e => (hO.lt r e).1)
      clear hO hO' hg hv hnil
      go_wp2_with fail
      go_roundw
      case rel => exact ⟨k + 1, m / 128, ol ++ [UInt8.ofNat (m % 128 + 128)], some ⟨g', 0, none⟩, cap', by omega, rfl, rfl, hnext, by omega, by simp, by simp; omega, HE, by simpa using HO2.out, hB'⟩
      case measure => simp [intOf]; omega

theorem ofL_app (l : List UInt8) (s : ByteArray) : ofL l ++ s = ofL (l ++ toL s) := by
  apply toL_inj
  simp [toL, ofL]

set_option maxHeartbeats 1000000 in
theorem refText_any (s : ByteArray) (w : World) (hs : s.size ≤ 1000000) :
    Calls Tryd.prog 23 #[.string s] w (TextIs w (groupsL s.size ++ toL s)) := by
  have hsi : (s.size : Int) ≤ 1000000 := by omega
  have hgl := groupsL_le s.size
  go_enter Tryd.func23, Tryd.ntmps23
  go_wp2_with fail
  refine (refNum_any s.size w (by omega)).mono ?_
  rintro e w1 ⟨rfl, hB1⟩
  have q1 : ¬ 9223372036854775807 < (ofL (groupsL s.size)).size + s.size := by rw [ofL_size]; omega
  go_wp2_with fail
  refine bodyPost_ret (results_tmp rfl _ _ _) rfl ⟨by rw [← ofL_app]; rfl, hB1⟩

end Go.Proofs.YtlbhgebjmekclaaDoor
