/-
  roll.Of; the reference's Of; awake.
-/
import Derived.Test.YtdkdnfcmlnfkcaaRollGrow
namespace Go.Proofs.Ytdkdnfcmlnfkcaa
open Go.RowKit
set_option maxRecDepth 100000

theorem rofL_size (l : List UInt8) : (ofL l).size = l.length := by simp [ofL, ByteArray.size]
set_option maxHeartbeats 2000000 in
theorem rollOf_any (A : Option Addr) (l : List UInt8) (c : Nat) (w : World) (hR : RdB w w.heap.size A l) (hl : l.length ≤ 1000000) :
    Calls Try.prog 69 #[.slice A l.length c] w fun e w' => e = .returned (.int .u32 (weakN l : Nat)) ∧ Below w.heap.size w w' := by
  have hli : (l.length : Int) ≤ 1000000 := by omega
  have HR := hide hR
  clear hR
  go_enter Try.func69, Try.ntmps69
  go_wp2_with fail
  go_loopw [3, 4, 7] (fun s _ i wr => ∃ k : Nat, k ≤ l.length ∧ i = .int .i64 k ∧ s = .int .u32 (weakN (l.take k) : Nat) ∧ Below w.heap.size w wr) (fun _ _ i _ => l.length - (intOf i).toNat)
  case atStart => exact ⟨0, Nat.zero_le _, rfl, by simp [weakN, sA, sB], Below.refl _ _⟩
  case round =>
    obtain ⟨k, hk, rfl, rfl, hB⟩ := hrel
    by_cases hlt : (k : Int) < l.length
    · have hkl : k < l.length := by omega
      obtain ⟨ad, rfl, _, hc⟩ := (HR.out.below hB (Nat.le_refl _)) k _ (List.getElem?_eq_getElem hkl)
      have HT := hide (List.take_append_getElem hkl)
      have HG := hide (rgrow_any (l.take k) l[k] wr)
      rw [HT.out] at HG
      generalize l[k] = x at hc HG HT
      have hcv : wr.cell? (ad.add k) = some (.int .u8 x.toNat) := hc
      have hx256 := x.toNat_lt
      clear hc
      generalize weakN (l.take k) = s0 at HG ⊢
      obtain ⟨s1, hs1⟩ : ∃ s1, s1 = weakN (l.take (k + 1)) := ⟨_, rfl⟩
      rw [← hs1] at HG
      have HS := hide hs1
      clear hs1
      go_wp2_with fail
      refine HG.out.mono ?_
      rintro e w3 ⟨rfl, hB3⟩
      have hB4 := hB.trans (hB3.mono hB.size)
      clear HG hB3 hB hcv
      go_wp2_with fail
      go_roundw
      case rel => exact ⟨k + 1, hkl, rfl, by rw [HS.out], hB4⟩
      case measure => simp [intOf]; omega
    · obtain rfl : k = l.length := by omega
      rw [List.take_length]
      go_wp2_with fail
      exact bodyPost_ret (results_tmp rfl _ _ _) rfl ⟨rfl, hB⟩

theorem sA_take (l : List UInt8) (k : Nat) (h : k < l.length) : sA (l.take (k + 1)) = sA (l.take k) + (l[k]).toNat := by
  rw [← List.take_append_getElem h, sA_snoc]
theorem sB_take (n : Nat) (l : List UInt8) (k : Nat) (h : k < l.length) : sB n (l.take (k + 1)) = sB n (l.take k) + (n - k) * (l[k]).toNat := by
  rw [← List.take_append_getElem h, sB_app]
  simp [sB, Nat.min_eq_left (Nat.le_of_lt h)]

set_option maxHeartbeats 4000000 in
theorem refWeak_any (l : List UInt8) (w : World) (hl : l.length ≤ 1000000) :
    Calls Try.prog 71 #[.string (ofL l)] w fun e w' => e = .returned (.int .u32 (weakN l : Nat)) ∧ w' = w := by
  have hsz := rofL_size l
  go_enter Try.func71, Try.ntmps71
  go_wp2_with fail
  go_loopw [3, 4, 5] (fun a b i wr => ∃ k p q : Nat, k ≤ l.length ∧ i = .int .i64 k ∧ a = .int .u32 p ∧ b = .int .u32 q ∧ p < 65536 ∧ q < 65536 ∧ Hid (p = sA (l.take k) % 65536) ∧ Hid (q = sB l.length (l.take k) % 65536) ∧ wr = w) (fun _ _ i _ => l.length - (intOf i).toNat)
  case atStart => exact ⟨0, 0, 0, Nat.zero_le _, rfl, rfl, rfl, by decide, by decide, hide rfl, hide rfl, rfl⟩
  case round =>
    obtain ⟨k, p, q, hk, rfl, rfl, rfl, hp, hq, HP, HQ, rfl⟩ := hrel
    have hpi : (p : Int) < 65536 := by omega
    have hqi : (q : Int) < 65536 := by omega
    by_cases hlt : (k : Int) < (ofL l).size
    · have hkl : k < l.length := by omega
      have H1 := hide (sA_take l k hkl)
      have H2 := hide (sB_take l.length l k hkl)
      have hxg : (ofL l)[k]'(by omega) = l[k] := by simp [ofL, ByteArray.getElem_eq_getElem_data]
      generalize l[k] = x at H1 H2 hxg
      have hx256 := x.toNat_lt
      generalize hxn : x.toNat = xn at H1 H2 hx256
      have hxi : (xn : Int) < 256 := by omega
      obtain ⟨d, hd⟩ : ∃ d, d = l.length - k := ⟨_, rfl⟩
      have hdz : (l.length : Int) - (k : Int) = (d : Int) := by omega
      have hd0 : (d : Int) ≤ 1000000 := by omega
      obtain ⟨m, hm⟩ : ∃ m, m = d % 65536 * xn := ⟨_, rfl⟩
      have hmb : m ≤ 65535 * 255 := by rw [hm]; exact Nat.mul_le_mul (by omega) (by omega)
      have hmi : (m : Int) ≤ 16711425 := by omega
      have hmz : ((d : Int) % 65536) * (xn : Int) = (m : Int) := by rw [hm]; simp
      have HE1 := hide (show (p + xn) % 65536 = sA (l.take (k + 1)) % 65536 by rw [H1.out, HP.out]; omega)
      have HE2 := hide (show (q + m) % 65536 = sB l.length (l.take (k + 1)) % 65536 by
        rw [H2.out, HQ.out, ← hd, hm]
        have h := Nat.mul_mod d xn 65536
        have h2 := Nat.mul_mod (d % 65536) xn 65536
        rw [Nat.mod_mod] at h2
        rw [← h2] at h
        omega)
      clear hd hm hmb H1 H2 HP HQ
      go_wp2_with fail
      go_roundw
      case rel => exact ⟨k + 1, (p + xn) % 65536, (q + m) % 65536, hkl, rfl, rfl, rfl, Nat.mod_lt _ (by decide), Nat.mod_lt _ (by decide), HE1, HE2, trivial⟩
      case measure => simp [intOf]; omega
    · obtain rfl : k = l.length := by omega
      rw [List.take_length] at HP HQ
      have HJ := hide (show ((weakN l : Nat) : Int) = (p : Int) + 65536 * (q : Int) by unfold weakN; rw [← HP.out, ← HQ.out]; omega)
      go_wp2_with fail
      exact bodyPost_ret (results_tmp rfl _ _ _) rfl ⟨by rw [HJ.out]; rfl, rfl⟩
end Go.Proofs.Ytdkdnfcmlnfkcaa
