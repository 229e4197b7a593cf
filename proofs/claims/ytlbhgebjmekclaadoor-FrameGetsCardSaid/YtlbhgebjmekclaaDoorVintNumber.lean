/-
  vint.number: the number that stands at the begin of bytes.
-/
import Derived.Test.YtlbhgebjmekclaaDoorVintClone
namespace Go.Proofs.YtlbhgebjmekclaaDoor
open Go.RowKit
set_option maxRecDepth 100000

/-- Byte by byte: the number, how many bytes it has, and the error. -/
def numF : Nat → Nat → List UInt8 → Nat × Nat × Nat
  | _, _, [] => (0, 0, 4)
  | i, a, c :: r => if (i = 9 ∧ 1 < c.toNat) ∨ (0 < i ∧ c.toNat = 0) then (0, 0, 3) else if c.toNat < 128 then (a + c.toNat % 128 * 128 ^ i, i + 1, 0) else numF (i + 1) (a + c.toNat % 128 * 128 ^ i) r
def numL (l : List UInt8) : Nat × Nat × Nat := numF 0 0 l
def numV (r : Nat × Nat × Nat) : Value := .tuple #[.int .u64 (r.1 : Nat), .int .i64 (r.2.1 : Nat), .int .i64 (r.2.2 : Nat)]

theorem or_shift (a c k : Nat) (hk : k ≤ 9) (ha : a < 128 ^ k) (hc : c < 128) (h9 : k = 9 → c ≤ 1) :
    bits BinOp.or IntKind.u64 (a : Int) (IntKind.u64.wrap ((c : Int) * 2 ^ (7 * k))) = ((a + c * 128 ^ k : Nat) : Int) := by
  have e128 : (2 : Int) ^ (7 * k) = ((128 ^ k : Nat) : Int) := by rw [Int.pow_mul]; simp
  have hlt : c * 128 ^ k < 18446744073709551616 := by
    by_cases h : k = 9
    · subst h; have := h9 rfl; omega
    · have h1 : 128 ^ k ≤ 128 ^ 8 := Nat.pow_le_pow_right (by decide) (by omega)
      have h2 : c * 128 ^ k ≤ 127 * 128 ^ 8 := Nat.mul_le_mul (by omega) h1
      omega
  have halt : a < 18446744073709551616 := Nat.lt_of_lt_of_le ha (Nat.le_trans (Nat.pow_le_pow_right (by decide) hk) (by decide))
  have hw : IntKind.u64.wrap ((c : Int) * 2 ^ (7 * k)) = ((c * 128 ^ k : Nat) : Int) := by
    rw [e128, IntKind.wrap_u64]
    have : ((c : Int) * ((128 ^ k : Nat) : Int)) = ((c * 128 ^ k : Nat) : Int) := by simp
    rw [this]; omega
  rw [hw]
  have h := bits_join_low .u64 64 (by decide) wraps_u64 (7 * k) (a : Int) ((c * 128 ^ k : Nat) : Int) (by omega) (by rw [e128]; omega) (by omega) (by omega) (by rw [e128]; simp) (by omega)
  rw [h]; simp

theorem numF_step (l : List UInt8) (k a : Nat) (x : UInt8) (hx : l[k]? = some x) : numF k a (l.drop k) = numF k a (x :: l.drop (k + 1)) := by
  obtain ⟨h, e⟩ := List.getElem?_eq_some_iff.1 hx
  rw [List.drop_eq_getElem_cons h, e]

theorem lt_next {a k m : Nat} (ha : a < 128 ^ k) : a + m % 128 * 128 ^ k < 128 ^ (k + 1) := by
  have h1 : m % 128 * 128 ^ k ≤ 127 * 128 ^ k := Nat.mul_le_mul_right _ (by omega)
  rw [Nat.pow_succ]
  omega
theorem numF_bad (k a : Nat) (x : UInt8) (r : List UInt8) (h : (k = 9 ∧ 1 < x.toNat) ∨ (0 < k ∧ x.toNat = 0)) : numF k a (x :: r) = (0, 0, 3) := by rw [numF, if_pos h]
theorem numF_good (k a : Nat) (x : UInt8) (r : List UInt8) (h : ¬ ((k = 9 ∧ 1 < x.toNat) ∨ (0 < k ∧ x.toNat = 0))) :
    numF k a (x :: r) = if x.toNat < 128 then (a + x.toNat % 128 * 128 ^ k, k + 1, 0) else numF (k + 1) (a + x.toNat % 128 * 128 ^ k) r := by rw [numF, if_neg h]

set_option maxHeartbeats 4000000 in
theorem number_any (A : Option Addr) (l : List UInt8) (c : Nat) (w : World) (hR : RdB w w.heap.size A l) (hl : l.length ≤ 1000000) :
    Calls Tryd.prog 54 #[.slice A l.length c] w fun e w' => e = .returned (numV (numL l)) ∧ w' = w := by
  have hli : (l.length : Int) ≤ 1000000 := by omega
  go_enter Tryd.func54, Tryd.ntmps54
  go_wp2_with fail
  go_loopw [5, 9] (fun s i wr => ∃ k a : Nat, k ≤ l.length ∧ k ≤ 9 ∧ i = .int .i64 k ∧ s = .int .u64 a ∧ a < 128 ^ k ∧ Hid (numL l = numF k a (l.drop k)) ∧ wr = w) (fun _ i _ => l.length - (intOf i).toNat)
  case atStart => exact ⟨0, 0, Nat.zero_le _, by decide, rfl, rfl, by decide, hide rfl, rfl⟩
  case round =>
    obtain ⟨k, a, hk, hk9, rfl, rfl, ha, HN, rfl⟩ := hrel
    by_cases hlt : (k : Int) < l.length
    · have hlt' : k < l.length := by omega
      have hx := List.getElem?_eq_getElem hlt'
      obtain ⟨ad, rfl, _, hc⟩ := hR k _ hx
      have hstep := HN.out.trans (numF_step l k a _ hx)
      generalize l[k] = x at hx hc hstep
      have hx256 := x.toNat_lt
      have hcv : wr.cell? (ad.add k) = some (.int .u8 x.toNat) := hc
      clear hc
      by_cases h9 : k = 9
      · have E9 : ((k : Int) == 9) = true := by rw [h9]; rfl
        have k0 : (0 : Int) < k := by omega
        by_cases x1 : (1 : Int) < x.toNat
        ·
          have HB := hide (show numL l = (0, 0, 3) by rw [hstep]; exact numF_bad _ _ _ _ (.inl ⟨h9, by omega⟩))
          clear hstep h9
          go_wp2_with fail
          refine bodyPost_ret (results_tmp3 rfl _ _ _) rfl ⟨by rw [HB.out]; rfl, rfl⟩
        · by_cases x0 : x.toNat = 0
          · have X0 : ((x.toNat : Int) == 0) = true := by rw [x0]; rfl
            have HB := hide (show numL l = (0, 0, 3) by rw [hstep]; exact numF_bad _ _ _ _ (.inr ⟨by omega, x0⟩))
            clear hstep h9 x0
            go_wp2_with fail
            refine bodyPost_ret (results_tmp3 rfl _ _ _) rfl ⟨by rw [HB.out]; rfl, rfl⟩
          · have X0 : ((x.toNat : Int) == 0) = false := by rw [beq_eq_false_iff_ne]; omega
            have hnb : ¬ ((k = 9 ∧ 1 < x.toNat) ∨ (0 < k ∧ x.toNat = 0)) := by omega
            have HV := hide (show bits BinOp.or IntKind.u64 (a : Int) (IntKind.u64.wrap ((x.toNat : Int) % 128 * 2 ^ (7 * k))) = ((a + x.toNat % 128 * 128 ^ k : Nat) : Int) from or_shift a (x.toNat % 128) k hk9 ha (by omega) (fun _ => by omega))
            have HS := hide (show numL l = if x.toNat < 128 then (a + x.toNat % 128 * 128 ^ k, k + 1, 0) else numF (k + 1) (a + x.toNat % 128 * 128 ^ k) (l.drop (k + 1)) by rw [hstep]; exact numF_good _ _ _ _ hnb)
            clear hstep hnb h9 x0
            by_cases h128 : (x.toNat : Int) < 128
            · have HS2 := hide (show numL l = (a + x.toNat % 128 * 128 ^ k, k + 1, 0) by rw [HS.out, if_pos (by omega)])
              go_wp2_with fail
              refine bodyPost_ret (results_tmp3 rfl _ _ _) rfl ⟨by rw [HS2.out, numV, ← HV.out]; rfl, rfl⟩
            · omega
      · have E9 : ((k : Int) == 9) = false := by rw [beq_eq_false_iff_ne]; omega
        have hk8 : (k : Int) ≤ 8 := by omega
        by_cases k0 : (0 : Int) < k
        · by_cases x0 : x.toNat = 0
          · have X0 : ((x.toNat : Int) == 0) = true := by rw [x0]; rfl
            have HB := hide (show numL l = (0, 0, 3) by rw [hstep]; exact numF_bad _ _ _ _ (.inr ⟨by omega, x0⟩))
            clear hstep h9 x0
            go_wp2_with fail
            refine bodyPost_ret (results_tmp3 rfl _ _ _) rfl ⟨by rw [HB.out]; rfl, rfl⟩
          · have X0 : ((x.toNat : Int) == 0) = false := by rw [beq_eq_false_iff_ne]; omega
            have hnb : ¬ ((k = 9 ∧ 1 < x.toNat) ∨ (0 < k ∧ x.toNat = 0)) := by omega
            have HV := hide (show bits BinOp.or IntKind.u64 (a : Int) (IntKind.u64.wrap ((x.toNat : Int) % 128 * 2 ^ (7 * k))) = ((a + x.toNat % 128 * 128 ^ k : Nat) : Int) from or_shift a (x.toNat % 128) k hk9 ha (by omega) (fun e => absurd e h9))
            have HS := hide (show numL l = if x.toNat < 128 then (a + x.toNat % 128 * 128 ^ k, k + 1, 0) else numF (k + 1) (a + x.toNat % 128 * 128 ^ k) (l.drop (k + 1)) by rw [hstep]; exact numF_good _ _ _ _ hnb)
            clear hstep hnb h9 x0
            by_cases h128 : (x.toNat : Int) < 128
            · have HS2 := hide (show numL l = (a + x.toNat % 128 * 128 ^ k, k + 1, 0) by rw [HS.out, if_pos (by omega)])
              go_wp2_with fail
              refine bodyPost_ret (results_tmp3 rfl _ _ _) rfl ⟨by rw [HS2.out, numV, ← HV.out]; rfl, rfl⟩
            · have HS2 := hide (show numL l = numF (k + 1) (a + x.toNat % 128 * 128 ^ k) (l.drop (k + 1)) by rw [HS.out, if_neg (by omega)])
              go_wp2_with fail
              go_roundw
              case rel => exact ⟨k + 1, a + x.toNat % 128 * 128 ^ k, by omega, by omega, rfl, by rw [HV.out], lt_next ha, HS2, trivial⟩
              case measure => simp [intOf]; omega
        ·
          have hnb : ¬ ((k = 9 ∧ 1 < x.toNat) ∨ (0 < k ∧ x.toNat = 0)) := by omega
          have HV := hide (show bits BinOp.or IntKind.u64 (a : Int) (IntKind.u64.wrap ((x.toNat : Int) % 128 * 2 ^ (7 * k))) = ((a + x.toNat % 128 * 128 ^ k : Nat) : Int) from or_shift a (x.toNat % 128) k hk9 ha (by omega) (fun e => absurd e h9))
          have HS := hide (show numL l = if x.toNat < 128 then (a + x.toNat % 128 * 128 ^ k, k + 1, 0) else numF (k + 1) (a + x.toNat % 128 * 128 ^ k) (l.drop (k + 1)) by rw [hstep]; exact numF_good _ _ _ _ hnb)
          clear hstep hnb h9
          by_cases h128 : (x.toNat : Int) < 128
          · have HS2 := hide (show numL l = (a + x.toNat % 128 * 128 ^ k, k + 1, 0) by rw [HS.out, if_pos (by omega)])
            go_wp2_with fail
            refine bodyPost_ret (results_tmp3 rfl _ _ _) rfl ⟨by rw [HS2.out, numV, ← HV.out]; rfl, rfl⟩
          · have HS2 := hide (show numL l = numF (k + 1) (a + x.toNat % 128 * 128 ^ k) (l.drop (k + 1)) by rw [HS.out, if_neg (by omega)])
            go_wp2_with fail
            go_roundw
            case rel => exact ⟨k + 1, a + x.toNat % 128 * 128 ^ k, by omega, by omega, rfl, by rw [HV.out], lt_next ha, HS2, trivial⟩
            case measure => simp [intOf]; omega
    · have HE := hide (show numL l = (0, 0, 4) by rw [HN.out, List.drop_of_length_le (by omega)]; rfl)
      go_wp2_with fail
      refine bodyPost_ret (results_tmp3 rfl _ _ _) rfl ⟨by rw [HE.out]; rfl, rfl⟩
end Go.Proofs.YtlbhgebjmekclaaDoor
