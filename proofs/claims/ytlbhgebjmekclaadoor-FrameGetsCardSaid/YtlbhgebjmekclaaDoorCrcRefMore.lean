/-
  The reference's More and Sum; crc.Sum.
-/
import Derived.Test.YtlbhgebjmekclaaDoorCrcHalf
namespace Go.Proofs.YtlbhgebjmekclaaDoor
open Go.RowKit
set_option maxRecDepth 100000

theorem cofL_size (l : List UInt8) : (ofL l).size = l.length := by simp [ofL, ByteArray.size]
set_option maxHeartbeats 4000000 in
theorem refMore_any (s : Nat) (l : List UInt8) (w : World) (hs : s < 4294967296) (hl : l.length ≤ 1000000) :
    Calls Tryd.prog 48 #[.int .u32 s, .string (ofL l)] w fun e w' => e = .returned (.int .u32 (moreN s l : Nat)) ∧ w' = w := by
  have hsz := cofL_size l
  go_enter Tryd.func48, Tryd.ntmps48
  go_wp2_with fail
  go_loopw [0, 5, 6] (fun v i _ wr => ∃ k t : Nat, k ≤ l.length ∧ i = .int .i64 k ∧ Hid (t = moreN s (l.take k)) ∧ v = .int .u32 t ∧ wr = w) (fun _ i _ _ => l.length - (intOf i).toNat)
  case atStart => exact ⟨0, s, Nat.zero_le _, rfl, hide rfl, rfl, rfl⟩
  case round =>
    obtain ⟨k, t, hk, rfl, HM, rfl, rfl⟩ := hrel
    have ht : t < 4294967296 := by rw [HM.out]; exact moreN_lt _ s hs
    by_cases hlt : (k : Int) < (ofL l).size
    · have hkl : k < l.length := by omega
      have HS := hide (moreN_step s l k hkl)
      rw [← HM.out] at HS
      have hxg : (ofL l)[k]'(by omega) = l[k] := by simp [ofL, ByteArray.getElem_eq_getElem_data]
      generalize l[k] = x at HS hxg
      have hx256 := x.toNat_lt
      have hxr := u32_xor_nat t x.toNat ht (by omega)
      have hxl := xor32 t x.toNat ht (by omega)
      obtain ⟨u, hu⟩ : ∃ u, u = t ^^^ x.toNat := ⟨_, rfl⟩
      rw [← hu] at hxr hxl HS
      clear hu
      go_wp2_with fail
      go_loopw [0, 6] (fun v j wr2 => ∃ j0 q : Nat, j0 ≤ 8 ∧ j = .int .i64 j0 ∧ Hid (q = bitsN j0 u) ∧ v = .int .u32 q ∧ wr2 = wr) (fun _ j _ => 8 - (intOf j).toNat)
      case atStart => exact ⟨0, u, by decide, rfl, hide rfl, rfl, rfl⟩
      case round =>
        obtain ⟨j0, q, hj, rfl, HQ, rfl, rfl⟩ := hrel
        have hq : q < 4294967296 := by rw [HQ.out]; exact bitsN_lt _ _ hxl
        by_cases hj8 : j0 < 8
        · have HB := hide (show bitsN (j0 + 1) u = bitN q by rw [HQ.out]; rfl)
          by_cases hodd : q % 2 = 1
          · have hb : bitN q = (q / 2) ^^^ 3988292384 := by unfold bitN; rw [if_pos hodd]
            have hx := u32_xor_nat (q / 2) 3988292384 (by omega) (by decide)
            rw [← hb] at hx
            have e0 : (((q : Int) % 2) == 1) = true := by rw [beq_iff_eq]; omega
            have e : ((q : Int) / 2) = ((q / 2 : Nat) : Int) := by simp
            rw [← e] at hx
            obtain ⟨q2, hq2⟩ : ∃ q2, q2 = bitN q := ⟨_, rfl⟩
            rw [← hq2] at hx HB
            clear hb hodd e hq2
            go_wp2_with fail
            go_roundw
            case rel => exact ⟨j0 + 1, q2, hj8, rfl, hide HB.out.symm, by rw [← hx]; rfl, trivial⟩
            case measure => simp [intOf]; omega
          · have hb : bitN q = q / 2 := by unfold bitN; rw [if_neg hodd]
            have e0 : (((q : Int) % 2) == 1) = false := by rw [beq_eq_false_iff_ne]; omega
            clear hodd
            go_wp2_with fail
            go_roundw
            case rel => exact ⟨j0 + 1, q / 2, hj8, rfl, hide (by rw [HB.out, hb]), rfl, trivial⟩
            case measure => simp [intOf]; omega
        · obtain rfl : j0 = 8 := by omega
          go_wp2_with fail
          go_roundw
          case rel => exact ⟨k + 1, q, hkl, rfl, hide (by rw [HS.out, HQ.out]), rfl, trivial⟩
          case measure => simp [intOf]; omega
    · obtain rfl : k = l.length := by omega
      rw [List.take_length] at HM
      go_wp2_with fail
      exact bodyPost_ret (results_tmp rfl _ _ _) rfl ⟨by rw [← HM.out]; rfl, rfl⟩
/-- A sum. -/
def crcL (l : List UInt8) : Nat := 4294967295 - moreN 4294967295 l
theorem xor_ones (t : Nat) (h : t < 4294967296) : 4294967295 ^^^ t = 4294967295 - t := by
  have h32 : t < 2 ^ 32 := h
  apply Nat.eq_of_testBit_eq
  intro i
  rw [Nat.testBit_xor, show 4294967295 - t = 2 ^ 32 - (t + 1) by omega, Nat.testBit_two_pow_sub_succ h32, show (4294967295 : Nat) = 2 ^ 32 - 1 from rfl, Nat.testBit_two_pow_sub_one]
  by_cases hi : i < 32
  · simp [hi]
  · have hz : t.testBit i = false := Nat.testBit_lt_two_pow (by
      have : 2 ^ 32 ≤ 2 ^ i := Nat.pow_le_pow_right (by decide) (by omega)
      omega)
    simp [hi, hz]
set_option maxHeartbeats 1000000 in
theorem refCrc_any (l : List UInt8) (w : World) (hl : l.length ≤ 1000000) :
    Calls Tryd.prog 35 #[.string (ofL l)] w fun e w' => e = .returned (.int .u32 (crcL l : Nat)) ∧ w' = w := by
  have hm := moreN_lt l 4294967295 (by decide)
  have h := fun W => refMore_any 4294967295 l W (by decide) hl
  have HC := hide (show crcL l = 4294967295 ^^^ moreN 4294967295 l by rw [xor_ones _ hm]; rfl)
  have hx := u32_xor_nat 4294967295 (moreN 4294967295 l) (by decide) hm
  rw [← HC.out] at hx
  obtain ⟨t, ht⟩ : ∃ t, t = moreN 4294967295 l := ⟨_, rfl⟩
  obtain ⟨r, hr⟩ : ∃ r, r = crcL l := ⟨_, rfl⟩
  rw [← ht] at h hx
  rw [← hr] at hx ⊢
  clear ht hr hm HC
  go_enter Tryd.func35, Tryd.ntmps35
  go_wp2_with fail
  refine (h _).mono ?_
  rintro e w3 ⟨rfl, rfl⟩
  go_wp2_with fail
  exact bodyPost_ret (results_tmp rfl _ _ _) rfl ⟨by rw [← hx]; rfl, rfl⟩
end Go.Proofs.YtlbhgebjmekclaaDoor
