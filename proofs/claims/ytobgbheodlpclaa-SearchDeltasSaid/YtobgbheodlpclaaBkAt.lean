/-
  block.At: a block of bytes.
-/
import Derived.Test.YtobgbheodlpclaaBkCount
import Derived.Test.YtobgbheodlpclaaClone
namespace Go.Proofs.Ytobgbheodlpclaa
open Go.RowKit
set_option maxRecDepth 100000

/-- A block of bytes. -/
def blkL (l : List UInt8) (size k : Int) : List UInt8 := if k < 0 ∨ countN l.length size ≤ k then [] else (l.drop (k * fitN size).toNat).take (fitN size).toNat
theorem count_lt (n s k : Int) (hs : 4 ≤ s) (h : k < if n % s = 0 then n / s else n / s + 1) : k * s < n := by
  have e := Int.mul_ediv_add_emod n s
  have hm := Int.emod_nonneg n (show s ≠ 0 by omega)
  split at h
  · have h1 : (k + 1) * s ≤ (n / s) * s := Int.mul_le_mul_of_nonneg_right (by omega) (by omega)
    rw [Int.add_mul] at h1
    rw [Int.mul_comm] at e
    omega
  · have h1 : k * s ≤ (n / s) * s := Int.mul_le_mul_of_nonneg_right (by omega) (by omega)
    rw [Int.mul_comm] at e
    omega
theorem RdB.dropSome {w : World} {B k : Nat} {ad : Addr} {l : List UInt8} (h : RdB w B (some ad) l) : RdB w B (some (ad.add k)) (l.drop k) := fun j x hx => by
  rw [List.getElem?_drop] at hx
  obtain ⟨ad', e', hb, hcell⟩ := h (k + j) x hx
  cases e'
  refine ⟨_, rfl, by rw [add_block]; exact hb, ?_⟩
  have e : (ad.add k).add j = ad.add (k + j) := by
    unfold Addr.add
    by_cases hi : k = 0 <;> by_cases hj : j = 0 <;> simp [hi, hj, Nat.add_assoc]
  rw [e]; exact hcell

theorem RdB.first {w : World} {B : Nat} {A : Option Addr} {l : List UInt8} (h : RdB w B A l) (n : Nat) : RdB w B A (l.take n) := fun k x hx => by
  rw [List.getElem?_take] at hx
  split at hx
  · exact h k x hx
  · cases hx

set_option maxHeartbeats 4000000 in
theorem at_any (A : Option Addr) (l : List UInt8) (c : Nat) (size k : Int) (w : World) (hR : RdB w w.heap.size A l) (hc : Caps A l.length c) (hl : l.length ≤ 1000000) :
    Calls Try.prog 24 #[.slice A l.length c, .int .i64 size, .int .i64 k] w (Cloned w (blkL l size k)) := by
  have hf := fitN_in size
  have HF := hide (fun W => fit_any size W)
  have HC := hide (fun W => count_any l.length size W (by omega))
  have hV : blkL l size k = if k < 0 ∨ countN l.length size ≤ k then [] else (l.drop (k * fitN size).toNat).take (fitN size).toNat := rfl
  have hcn : countN l.length size = if (l.length : Int) % fitN size = 0 then (l.length : Int) / fitN size else (l.length : Int) / fitN size + 1 := by
    unfold countN; rw [show max (l.length : Int) 0 = l.length by omega]
  have hcl := hc.1
  generalize blkL l size k = V at hV ⊢
  by_cases h0 : k < 0
  · have HV := hide (show V = [] by rw [hV, if_pos (.inl h0)])
    clear hV hcn
    go_enter Try.func24, Try.ntmps24
    go_wp2_with fail
    exact bodyPost_ret (results_tmp rfl _ _ _) rfl ⟨none, 0, by rw [HV.out]; rfl, by rw [HV.out]; exact World.ownsRow_nil _ _ _ _, Below.refl _ _⟩
  · by_cases h1 : countN l.length size ≤ k
    · have HV := hide (show V = [] by rw [hV, if_pos (.inr h1)])
      clear hV hcn
      generalize countN l.length size = C at h1 HC
      go_enter Try.func24, Try.ntmps24
      go_wp2_with fail
      refine (HC.out _).mono ?_
      rintro e w1 ⟨rfl, rfl⟩
      go_wp2_with fail
      exact bodyPost_ret (results_tmp rfl _ _ _) rfl ⟨none, 0, by rw [HV.out]; rfl, by rw [HV.out]; exact World.ownsRow_nil _ _ _ _, Below.refl _ _⟩
    · rw [if_neg (by omega)] at hV
      have hlt : k * fitN size < l.length := count_lt _ _ _ hf.1 (by rw [← hcn]; omega)
      generalize countN l.length size = C at h1 HC
      generalize fitN size = s at hf HF hV hlt
      clear hcn
      have hk0 : 0 ≤ k * s := Int.mul_nonneg (by omega) (by omega)
      have hw1 : IntKind.i64.wrap (k * s) = k * s := IntWalk.i64_in _ (by omega)
      obtain ⟨m, hm⟩ : ∃ m : Nat, k * s = m := ⟨(k * s).toNat, by omega⟩
      obtain ⟨t, rfl⟩ : ∃ t : Nat, s = t := ⟨s.toNat, by omega⟩
      rw [hm] at hV hlt hw1
      have hml : m < l.length := by omega
      obtain ⟨ad, rfl⟩ : ∃ ad, A = some ad := by
        cases A with
        | some ad => exact ⟨ad, rfl⟩
        | none => exact absurd (RdB.of_none hR) (fun e => by rw [e] at hml; simp at hml)
      have hw2 : IntKind.i64.wrap ((m : Int) + t) = (m : Int) + t := IntWalk.i64_in _ (by omega)
      have hRd := hR.dropSome (k := m)
      have hVV : V = (l.drop m).take t := by rw [hV]; congr 1
      have i1 : (0 : Int) ≤ m := by omega
      have i2 : (l.length : Int) ≤ c := by omega
      have i3 : (m : Int) ≤ c := by omega
      have i4 : ¬ c = m := by omega
      have hkm : ¬ C ≤ k := h1
      have hlv : V.length = min t (l.length - m) := by rw [hVV, List.length_take, List.length_drop]
      have HCl := hide (fun (n : Nat) (hn : n = V.length) => (show Calls Try.prog 72 #[.slice (some (ad.add m)) n (c - m)] w (Cloned w V) from by
        have h := clone_own (some (ad.add m)) V (c - m) w (by rw [hVV]; exact RdB.first hRd t) ⟨by omega, fun e => by cases e⟩ (by omega)
        rw [hn]; exact h))
      by_cases h2 : (m : Int) + t ≤ l.length
      · have HC2 := hide (HCl.out t (by omega))
        have i5 : (m : Int) ≤ (m : Int) + t := by omega
        have i6 : (m : Int) + t ≤ c := by omega
        have i7 : ((m : Int) + t).toNat = m + t := by omega
        have i8 : m + t - m = t := by omega
        clear hV hVV hlv HCl hRd hc hR
        go_enter Try.func24, Try.ntmps24
        go_wp2_with fail
        refine (HC.out _).mono ?_
        rintro e w1 ⟨rfl, rfl⟩
        go_wp2_with fail
        refine (HF.out _).mono ?_
        rintro e w1 ⟨rfl, rfl⟩
        go_wp2_with fail
        refine (HF.out _).mono ?_
        rintro e w1 ⟨rfl, rfl⟩
        go_wp2_with fail
        refine HC2.out.mono ?_
        rintro e w2 ⟨D, d, rfl, hO, hb⟩
        go_wp2_with fail
        exact bodyPost_ret (results_tmp rfl _ _ _) rfl ⟨D, d, rfl, hO, hb⟩
      · have HC2 := hide (HCl.out (l.length - m) (by omega))
        have i5 : (m : Int) ≤ l.length := by omega
        clear hV hVV hlv HCl hRd hc hR
        go_enter Try.func24, Try.ntmps24
        go_wp2_with fail
        refine (HC.out _).mono ?_
        rintro e w1 ⟨rfl, rfl⟩
        go_wp2_with fail
        refine (HF.out _).mono ?_
        rintro e w1 ⟨rfl, rfl⟩
        go_wp2_with fail
        refine (HF.out _).mono ?_
        rintro e w1 ⟨rfl, rfl⟩
        go_wp2_with fail
        refine HC2.out.mono ?_
        rintro e w2 ⟨D, d, rfl, hO, hb⟩
        go_wp2_with fail
        exact bodyPost_ret (results_tmp rfl _ _ _) rfl ⟨D, d, rfl, hO, hb⟩
end Go.Proofs.Ytobgbheodlpclaa
