/-
  Of how many bytes the signature of bytes is, and that it may be (plain).
-/
import Derived.Test.YtdkdnfcmlnfkcaaBkRefOf
import Derived.Test.YtdkdnfcmlnfkcaaBkAwake
namespace Go.Proofs.Ytdkdnfcmlnfkcaa
open Go.RowKit
set_option maxRecDepth 100000

theorem blk_length (l : List UInt8) (size : Int) (h k : Nat) (hh : fitN size = h) (hk : k < (countN l.length size).toNat) : (blkL l size k).length = min h (l.length - k * h) := by
  rw [(blk_here l size h k hh hk).2, List.length_take, List.length_drop]
theorem sigF_whole (l : List UInt8) (size : Int) (h : Nat) (hh : fitN size = h) : ∀ i, i * h ≤ l.length → i ≤ (countN l.length size).toNat → sigF h ((blocksL l size).take i) = (((blocksL l size).take i).map signL, 0, ⟨0, 0, 0⟩)
  | 0, _, _ => rfl
  | i + 1, h1, h2 => by
    have hi : i * h ≤ l.length := Nat.le_trans (Nat.mul_le_mul_right h (Nat.le_succ i)) h1
    have ih := sigF_whole l size h hh i hi (by omega)
    have hg := blocksL_get l size i (by omega)
    have hl : (blkL l size i).length = h := by
      rw [blk_length l size h i hh (by omega)]
      rw [Nat.add_mul, Nat.one_mul] at h1
      omega
    rw [sigF_take h _ i _ hg, ih, blocks_take l size i (by omega), List.map_append]
    unfold ofStep
    rw [if_pos hl]
    rfl
/-- All of a signature of bytes. -/
theorem sig_facts (l : List UInt8) (size : Int) (h : Nat) (hh : fitN size = h) (hl : l.length ≤ 16384) :
    (sigF h (blocksL l size)).1.length * h + (sigF h (blocksL l size)).2.1 = l.length ∧ rightS h (sigF h (blocksL l size)).1.length ((sigF h (blocksL l size)).2.1 : Nat) (sigF h (blocksL l size)).2.2 = true ∧ (sigF h (blocksL l size)).1.length ≤ 4096 ∧ ∀ x ∈ (sigF h (blocksL l size)).1, x.fits := by
  have hf := fitN_in size
  rw [hh] at hf
  have hnn := countN_nn l.length size
  have hcn := countN_nat l.length size
  rw [hh] at hcn
  obtain ⟨N, hN⟩ : ∃ N : Nat, countN l.length size = N := ⟨(countN l.length size).toNat, by omega⟩
  have hNt : (countN l.length size).toNat = N := by omega
  have hlen : (blocksL l size).length = N := by rw [blocksL_len, hNt]
  have hall : (blocksL l size).take N = blocksL l size := List.take_of_length_le (by omega)
  have e := Int.mul_ediv_add_emod (l.length : Int) h
  have hm := Int.emod_nonneg (l.length : Int) (show (h : Int) ≠ 0 by omega)
  have hm2 := Int.emod_lt_of_pos (l.length : Int) (show (0 : Int) < h by omega)
  have hq0 : 0 ≤ (l.length : Int) / h := Int.ediv_nonneg (by omega) (by omega)
  obtain ⟨q, hq⟩ : ∃ q : Nat, (l.length : Int) / h = q := ⟨((l.length : Int) / h).toNat, by omega⟩
  rw [hq] at e hcn
  have hqh : ((q * h : Nat) : Int) = (h : Int) * q := by rw [Int.natCast_mul, Int.mul_comm]
  have hq4 : q * 4 ≤ q * h := Nat.mul_le_mul_left q (by omega)
  rw [hN] at hcn
  by_cases h0 : (l.length : Int) % h = 0
  · rw [if_pos h0] at hcn
    have hqN : q = N := by omega
    have hw := sigF_whole l size h hh N (by rw [← hqN]; omega) (by omega)
    rw [hall] at hw
    rw [hw]
    refine ⟨?_, ?_, ?_, ?_⟩
    · show (List.map signL (blocksL l size)).length * h + 0 = l.length
      rw [List.length_map, hlen, ← hqN]; omega
    · show rightS h (List.map signL (blocksL l size)).length ((0 : Nat) : Int) ⟨0, 0, 0⟩ = true
      rw [List.length_map, hlen, right_in (by omega) (by omega) (by omega)]
      rfl
    · show (List.map signL (blocksL l size)).length ≤ 4096
      rw [List.length_map, hlen]; omega
    · intro x hx
      obtain ⟨y, _, rfl⟩ := List.mem_map.1 hx
      exact signL_fits y
  · rw [if_neg h0] at hcn
    have hqN : q + 1 = N := by omega
    have hw := sigF_whole l size h hh q (by omega) (by omega)
    have hg := blocksL_get l size q (by omega)
    have hbl : (blkL l size q).length = l.length - q * h := by
      rw [blk_length l size h q hh (by omega)]; omega
    have hst := sigF_take h _ q _ hg
    rw [hqN, hall, hw] at hst
    have hne : ¬ (blkL l size q).length = h := by omega
    unfold ofStep at hst
    rw [if_neg hne] at hst
    have htl : ((blocksL l size).take q).length = q := by rw [List.length_take]; omega
    rw [hst]
    refine ⟨?_, ?_, ?_, ?_⟩
    · show (List.map signL ((blocksL l size).take q)).length * h + (blkL l size q).length = l.length
      rw [List.length_map, htl, hbl]; omega
    · show rightS h (List.map signL ((blocksL l size).take q)).length ((blkL l size q).length : Nat) (signL (blkL l size q)) = true
      rw [List.length_map, htl, right_in (by omega) (by omega) (by omega), if_neg (by omega), hbl]
      simp only [Bool.and_eq_true, decide_eq_true_eq]
      omega
    · show (List.map signL ((blocksL l size).take q)).length ≤ 4096
      rw [List.length_map, htl]; omega
    · intro x hx
      obtain ⟨y, _, rfl⟩ := List.mem_map.1 hx
      exact signL_fits y
end Go.Proofs.Ytdkdnfcmlnfkcaa
