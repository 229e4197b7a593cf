/-
  sketch: a shingle's word.
-/
import Derived.Test.YtpefcadlejcbbaaSkAlike
import Derived.Laws.BitsAllLaws
namespace Go.Proofs.Ytpefcadlejcbbaa
open Go.RowKit
set_option maxRecDepth 100000

/-- A number of bytes, the lowest first. -/
def lowL : List UInt8 → Nat
  | [] => 0
  | x :: l => x.toNat + 256 * lowL l
theorem lowL_lt (l : List UInt8) : lowL l < 256 ^ l.length := by
  induction l with
  | nil => decide
  | cons x l ih =>
    have := x.toNat_lt
    unfold lowL
    rw [List.length_cons, Nat.pow_succ]
    omega
theorem lowL_snoc (l : List UInt8) (x : UInt8) : lowL (l ++ [x]) = lowL l + 256 ^ l.length * x.toNat := by
  induction l with
  | nil => simp [lowL]
  | cons y l ih =>
    rw [List.cons_append]
    unfold lowL
    rw [ih, List.length_cons, Nat.pow_succ, Nat.mul_add, ← Nat.mul_assoc, Nat.mul_comm 256 (256 ^ l.length)]
    omega
/-- A shingle's word. -/
def wordL (l : List UInt8) : Nat := lowL l + 4294967296 * l.length
theorem wordL_lt (l : List UInt8) (h : l.length ≤ 4) : wordL l < 18446744073709551616 := by
  have h1 := lowL_lt l
  have h2 : 256 ^ l.length ≤ 256 ^ 4 := Nat.pow_le_pow_right (by decide) h
  unfold wordL
  omega
/-- The word with the first k bytes. -/
def wordTo (l : List UInt8) (k : Nat) : Nat := lowL (l.take k) + 4294967296 * l.length
theorem wordTo_all (l : List UInt8) : wordTo l l.length = wordL l := by unfold wordTo wordL; rw [List.take_length]
theorem or_parts (s x n k : Nat) (hs : s < 256 ^ k) (hx : x < 256) (hk : k ≤ 3) : s + 4294967296 * n ||| x * 256 ^ k = s + 4294967296 * n + 256 ^ k * x := by
  have e : 256 ^ k = 2 ^ (8 * k) := by rw [Nat.pow_mul]
  have e2 : 4294967296 = 2 ^ (8 * k) * 2 ^ (32 - 8 * k) := by rw [← Nat.pow_add, show 8 * k + (32 - 8 * k) = 32 by omega]
  have hx2 : x < 2 ^ (32 - 8 * k) := Nat.lt_of_lt_of_le hx (Nat.pow_le_pow_right (n := 2) (by decide) (show 8 ≤ 32 - 8 * k by omega))
  rw [e] at hs ⊢
  rw [e2]
  have hC := Nat.two_pow_add_eq_or_of_lt hx2 n
  obtain ⟨Y, hY⟩ : ∃ Y, Y = 2 ^ (32 - 8 * k) * n := ⟨_, rfl⟩
  rw [← hY] at hC
  rw [Nat.mul_assoc, ← hY]
  have hA := Nat.two_pow_add_eq_or_of_lt hs Y
  have hB := Nat.two_pow_add_eq_or_of_lt hs (Y + x)
  have hD : 2 ^ (8 * k) * (Y ||| x) = 2 ^ (8 * k) * Y ||| 2 ^ (8 * k) * x := by
    have h := @Nat.shiftLeft_or_distrib (8 * k) Y x
    simpa [Nat.shiftLeft_eq, Nat.mul_comm] using h
  rw [Nat.add_comm s, hA, Nat.mul_comm x, Nat.or_assoc, Nat.or_comm s, ← Nat.or_assoc, ← hD, ← hC, ← hB, ← hA, Nat.mul_add]
  omega
theorem wordTo_or (l : List UInt8) (k : Nat) (hl : l.length ≤ 4) (hk : k < l.length) : wordTo l k ||| (l[k]).toNat * 256 ^ k = wordTo l (k + 1) := by
  have hx := (l[k]).toNat_lt
  have ht : (l.take k).length = k := by rw [List.length_take]; omega
  have h1 := lowL_lt (l.take k)
  rw [ht] at h1
  have h2 : lowL (l.take (k + 1)) = lowL (l.take k) + 256 ^ k * (l[k]).toNat := by rw [← List.take_append_getElem hk, lowL_snoc, ht]
  unfold wordTo
  rw [h2, or_parts (lowL (l.take k)) (l[k]).toNat l.length k h1 hx (by omega)]
  omega
theorem wordTo_lt (l : List UInt8) (k : Nat) (h : l.length ≤ 4) : wordTo l k < 18446744073709551616 := by
  have h1 := lowL_lt (l.take k)
  have h2 : 256 ^ (l.take k).length ≤ 256 ^ 4 := Nat.pow_le_pow_right (by decide) (by rw [List.length_take]; omega)
  unfold wordTo
  omega

set_option maxHeartbeats 4000000 in
theorem word_any (ad : Addr) (l : List UInt8) (c : Nat) (w : World) (hR : RdB w w.heap.size (some ad) l) (hl : l.length ≤ 4) :
    Calls Try.prog 52 #[.slice (some ad) l.length c] w fun e w' => e = .returned (.int .u64 (wordL l : Nat)) ∧ w' = w := by
  have hli : (l.length : Int) ≤ 4 := by omega
  have HR := hide hR
  clear hR
  have hw0 : IntKind.u64.wrap (l.length : Int) = (l.length : Int) := by rw [IntKind.wrap_u64]; omega
  obtain ⟨d, hd⟩ : ∃ d, d = 4294967296 * l.length := ⟨_, rfl⟩
  have hdi : (l.length : Int) * 4294967296 = (d : Int) := by omega
  have hdw : IntKind.u64.wrap (d : Int) = (d : Int) := by rw [IntKind.wrap_u64]; omega
  have HD := hide hd
  clear hd
  go_enter Try.func52, Try.ntmps52
  go_wp2_with fail
  go_loopw [3, 4, 11] (fun s _ i wr => ∃ k : Nat, k ≤ l.length ∧ i = .int .i64 k ∧ s = .int .u64 (wordTo l k : Nat) ∧ wr = w) (fun _ _ i _ => l.length - (intOf i).toNat)
  case atStart => exact ⟨0, Nat.zero_le _, rfl, by unfold wordTo; rw [← HD.out]; simp [lowL], rfl⟩
  case round =>
    obtain ⟨k, hk, rfl, rfl, rfl⟩ := hrel
    by_cases hlt : (k : Int) < l.length
    · have hkl : k < l.length := by omega
      obtain ⟨ad', e, _, hc⟩ := HR.out k _ (List.getElem?_eq_getElem hkl)
      cases e
      have HO := hide (wordTo_or l k hl hkl)
      have hx256 := (l[k]).toNat_lt
      have hcv : wr.cell? (ad.add k) = some (.int .u8 ((l[k]).toNat : Nat)) := hc
      have hT := wordTo_lt l k hl
      clear hc
      generalize (l[k]).toNat = x at hcv hx256 HO
      have hxi : (x : Int) < 256 := by omega
      obtain ⟨t, ht⟩ : ∃ t, t = wordTo l (k + 1) := ⟨_, rfl⟩
      rw [← ht] at HO
      generalize wordTo l k = s at HO hT ⊢
      have HT := hide ht
      clear ht
      have h8 : IntKind.i64.wrap (8 * (k : Int)) = 8 * (k : Int) := IntWalk.i64_in _ (by omega)
      have hp : (256 : Nat) ^ k = 2 ^ (8 * k) := by rw [Nat.pow_mul]
      have hpk : (256 : Nat) ^ k ≤ 256 ^ 3 := Nat.pow_le_pow_right (by decide) (by omega)
      have hm : x * 256 ^ k ≤ 255 * 256 ^ 3 := Nat.mul_le_mul (by omega) hpk
      have hbit := hide (show bits .or .u64 (s : Int) (IntKind.u64.wrap ((x : Int) * 2 ^ (8 * k))) = (t : Int) by
        have e : (x : Int) * 2 ^ (8 * k) = ((x * 256 ^ k : Nat) : Int) := by rw [hp]; simp
        rw [e, IntKind.wrap_u64, show ((x * 256 ^ k : Nat) : Int) % 18446744073709551616 = ((x * 256 ^ k : Nat) : Int) by omega, u64_or_nat _ _ hT (by omega), HO.out])
      clear hp hpk hm
      go_wp2_with fail
      go_roundw
      case rel => exact ⟨k + 1, hkl, rfl, by rw [hbit.out, HT.out], trivial⟩
      case measure => simp [intOf]; omega
    · obtain rfl : k = l.length := by omega
      rw [wordTo_all]
      go_wp2_with fail
      exact bodyPost_ret (results_tmp rfl _ _ _) rfl ⟨rfl, rfl⟩
end Go.Proofs.Ytpefcadlejcbbaa
