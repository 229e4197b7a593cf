/-
  VintOnce's law: bytes that are read as a number are just its bytes; a greater number has no fewer.
-/
import Derived.Test.YthmiffjhchhljabVintAwake
import Derived.Deep.RegionWith
namespace Go.Proofs.Ythmiffjhchhljab
open Go.RowKit
set_option maxRecDepth 100000

theorem groups_mono : ∀ (f n m : Nat), n ≤ m → (groupsF f n).length ≤ (groupsF f m).length
  | 0, _, _, _ => by simp [groupsF]
  | f + 1, n, m, h => by
    by_cases hn : n < 128
    · have e : groupsF (f + 1) n = [UInt8.ofNat n] := by unfold groupsF; rw [if_pos hn]
      rw [e]
      exact groups_pos (f + 1) m
    · have e1 : groupsF (f + 1) n = UInt8.ofNat (n % 128 + 128) :: groupsF f (n / 128) := by conv => lhs; unfold groupsF; rw [if_neg hn]
      have e2 : groupsF (f + 1) m = UInt8.ofNat (m % 128 + 128) :: groupsF f (m / 128) := by conv => lhs; unfold groupsF; rw [if_neg (by omega)]
      rw [e1, e2, List.length_cons, List.length_cons]
      have := groups_mono f (n / 128) (m / 128) (Nat.div_le_div_right h)
      omega
theorem numF_once : ∀ (r : List UInt8) (i a x z : Nat), i ≤ 9 → numF i a r = (x, z, 0) → ∃ y, x = a + y * 128 ^ i ∧ i < z ∧ groupsF (9 - i) y = r.take (z - i) ∧ (0 < i → 0 < y)
  | [], i, a, x, z, _, h => by simp [numF] at h
  | c :: r, i, a, x, z, hi, h => by
    by_cases hb : (i = 9 ∧ 1 < c.toNat) ∨ (0 < i ∧ c.toNat = 0)
    · rw [numF_bad _ _ _ _ hb] at h; simp at h
    · rw [numF_good _ _ _ _ hb] at h
      have hx := c.toNat_lt
      have hof : UInt8.ofNat c.toNat = c := by simp
      by_cases hc : c.toNat < 128
      · rw [if_pos hc] at h
        simp only [Prod.mk.injEq] at h
        obtain ⟨rfl, rfl, _⟩ := h
        refine ⟨c.toNat, by rw [Nat.mod_eq_of_lt hc], by omega, ?_, by omega⟩
        rw [show i + 1 - i = 1 by omega]
        have e : groupsF (9 - i) c.toNat = [UInt8.ofNat c.toNat] := by
          cases 9 - i with
          | zero => rfl
          | succ f => unfold groupsF; rw [if_pos hc]
        rw [e, hof]; rfl
      · rw [if_neg hc] at h
        have hi9 : i ≠ 9 := by omega
        obtain ⟨y, h1, h2, h3, h4⟩ := numF_once r (i + 1) _ x z (by omega) h
        have hy := h4 (by omega)
        refine ⟨c.toNat % 128 + 128 * y, ?_, by omega, ?_, by omega⟩
        · rw [h1, Nat.pow_succ, Nat.add_mul]
          have : y * (128 ^ i * 128) = 128 * y * 128 ^ i := by rw [Nat.mul_comm (128 ^ i) 128, ← Nat.mul_assoc, Nat.mul_comm y 128]
          omega
        · obtain ⟨f, hf⟩ : ∃ f, 9 - i = f + 1 := ⟨9 - i - 1, by omega⟩
          obtain ⟨g, hg⟩ : ∃ g, z - i = g + 1 := ⟨z - i - 1, by omega⟩
          rw [hf, hg, List.take_succ_cons]
          conv => lhs; unfold groupsF
          rw [if_neg (by omega)]
          have e1 : (c.toNat % 128 + 128 * y) % 128 + 128 = c.toNat := by omega
          have e2 : (c.toNat % 128 + 128 * y) / 128 = y := by omega
          rw [e1, e2, hof, show f = 9 - (i + 1) by omega, h3, show z - (i + 1) = g by omega]
theorem numL_once (l : List UInt8) (x z : Nat) (h : numL l = (x, z, 0)) (hz : l.drop z = []) : groupsL x = l := by
  obtain ⟨y, h1, _, h3, _⟩ := numF_once l 0 0 x z (by decide) h
  have e : y = x := by rw [h1]; simp
  rw [e] at h3
  have ht : l.take z = l := by
    have := List.take_append_drop z l
    rw [hz, List.append_nil] at this
    exact this
  rw [show z - 0 = z from rfl, ht] at h3
  exact h3
theorem once_read (l : List UInt8) (h : endN (readN l 0 18446744073709551615).2.2 (readN l 0 18446744073709551615).2.1 = 0) : groupsL (readN l 0 18446744073709551615).1 = l := by
  have hf := (numL_facts l).1
  unfold readN at h ⊢
  rw [if_neg (by simp)] at h ⊢
  by_cases h1 : (numL l).2.2 ≠ 0
  · rw [if_pos h1] at h
    unfold endN at h
    rw [if_pos h1] at h
    exact absurd h h1
  · rw [if_neg h1, if_neg (by omega)] at h ⊢
    unfold endN at h
    rw [if_neg (by simp)] at h
    refine numL_once l (numL l).1 (numL l).2.1 (by
      have : (numL l).2.2 = 0 := by simpa using h1
      rw [← this]) ?_
    by_cases hl : (l.drop (numL l).2.1).length = 0
    · exact List.eq_nil_of_length_eq_zero hl
    · rw [if_neg hl] at h; cases h
theorem readN_lt (l : List UInt8) : (readN l 0 18446744073709551615).1 < 18446744073709551616 := by
  have hf := (numL_facts l).1
  unfold readN
  rw [if_neg (by simp)]
  split
  · show 0 < _; decide
  · split
    · show 0 < _; decide
    · exact hf
theorem readN_len (l : List UInt8) (e most : Nat) : (readN l e most).2.1.length ≤ l.length := by
  unfold readN
  split
  · exact Nat.le_refl _
  · split
    · exact Nat.le_refl _
    · split
      · exact Nat.le_refl _
      · simp

theorem below_drewN {B : Nat} {a w : World} (h : Below B a w) (n : Nat) : Below B a (w.drewN n) := ⟨h.os, h.tape, h.output, h.size, h.block⟩
theorem IsR.drewN {w : World} {b e : Nat} {l : List UInt8} (h : IsR w b l e) (n : Nat) : IsR (w.drewN n) b l e := h
theorem IsR.drew {w : World} {b e : Nat} {l : List UInt8} (h : IsR w b l e) : IsR w.drew b l e := h
theorem RdB.drew {w : World} {B : Nat} {A : Option Addr} {l : List UInt8} (h : RdB w B A l) : RdB w.drew B A l := h

set_option maxHeartbeats 8000000 in
theorem once_law (A : Option Addr) (l : List UInt8) (c n m : Nat) (w : World) (hR : RdB w w.heap.size A l) (hc : Caps A l.length c) (hn : n < 18446744073709551616) (hm : m < 18446744073709551616) :
    Calls Try.prog 3 #[.slice A l.length c, .int .u64 n, .int .u64 m] w fun e w' => e = .returned (.bool true) ∧ Below w.heap.size w w' := by
  by_cases h20 : (20 : Int) < l.length
  · go_enter Try.func3, Try.ntmps3
    go_wp2_with fail
    refine (awake_any _).mono ?_
    rintro e w9 ⟨rfl, hB9⟩
    go_wp2_with fail
    refine bodyPost_ret (results_tmp rfl _ _ _) rfl ⟨rfl, hB9⟩
  have HO := hide (once_read l)
  have hxl := readN_lt l
  have hll := readN_len l 0 18446744073709551615
  go_enter Try.func3, Try.ntmps3
  go_wp2_with fail
  refine (read_any A l c w hR hc (by omega)).mono ?_
  rintro e w1 ⟨⟨b, rfl, hI, hb⟩, hB1⟩
  have hR1 := hR.below hB1 (Nat.le_refl _)
  go_wp2_with fail
  refine (readNum_any b 18446744073709551615 0 l w1 hI (by omega)).mono ?_
  rintro e w2 ⟨rfl, hI2, hg2, hBb⟩
  have hR2 := hR1.below hBb hb
  have hB2 := hB1.grown hg2 hB1.size (fun r e => by cases e; exact hb)
  clear hR1 hB1 hI hBb hg2
  generalize readN l 0 18446744073709551615 = rr at HO hxl hll hI2 ⊢
  obtain ⟨x, l', e'⟩ := rr
  simp only at HO hxl hll hI2
  have hg1 := groups_mono 9 n m
  by_cases hE : endN e' l' = 0
  · have hgl := HO.out hE
    have hend := end_any b e' l' w2.drew hI2.drew (by omega)
    rw [hE] at hend
    have HEnd := hide hend
    have hcv := conv_any hR2.drew c
    clear hend hE
    go_wp2_with fail
    go_region_with (first | (go_at_call 7; refine HEnd.out.mono ?_; rintro en w3 ⟨rfl, rfl⟩) | (go_at_call 8; refine (putNum_any none [] 0 x _ (RdB.nil _ _ _) (by decide) hxl).mono ?_; rintro en w4 ⟨G, gc, rfl, _, hG, hB4⟩; rw [List.nil_append, hgl] at hG ⊢; have hcv4 := conv_any hG gc; have hcv5 := conv_any (hR2.drew.below hB4 hB2.size) c; have hB5 := hB2.drew.trans (hB4.mono hB2.size)))
    all_goals
      clear hcv4 hcv5 hG hB4 HEnd hgl hcv hR2 hI2 hB2
      go_wp2_with fail
      refine (awake_any _).mono ?_
      rintro en w5 ⟨rfl, hB6'⟩
      have hB6 := hB5.trans (hB6'.mono hB5.size)
      clear hB5 hB6'
      by_cases hnm : (m : Int) < n
      · go_wp2_with fail
        refine bodyPost_ret (results_tmp rfl _ _ _) rfl ⟨rfl, hB6⟩
      · have HL := hide (hg1 (by omega))
        clear hg1
        go_wp2_with fail
        refine (putNum_any none [] 0 n _ (RdB.nil _ _ _) (by decide) hn).mono ?_
        rw [List.nil_append]
        rintro en w6 ⟨G6, g6, rfl, _, _, hB7'⟩
        have hB7 := hB6.trans (hB7'.mono hB6.size)
        clear hB6 hB7'
        go_wp2_with fail
        refine (putNum_any none [] 0 m _ (RdB.nil _ _ _) (by decide) hm).mono ?_
        rw [List.nil_append]
        rintro en w7 ⟨G7, g7, rfl, _, _, hB8⟩
        have hlen : (((groupsL n).length : Nat) : Int) ≤ ((groupsL m).length : Nat) := by have := HL.out; show (((groupsF 9 n).length : Nat) : Int) ≤ ((groupsF 9 m).length : Nat); omega
        go_wp2_with fail
        refine bodyPost_ret (results_tmp rfl _ _ _) rfl ⟨rfl, hB7.trans (hB8.mono hB7.size)⟩
  · have E1 : (((endN e' l' : Nat) : Int) == 0) = false := by rw [beq_eq_false_iff_ne]; omega
    have hll2 : l'.length ≤ 1000000 := by omega
    clear hE
    go_wp2_with fail
    go_quiet ((go_at_call 7; exact Calls.quiet_of_same (end_any b e' l' _ (hI2.drewN _) hll2)))
    have hB5 := below_drewN hB2 nq
    clear hR2 hI2 hB2
    generalize w2.drewN nq = w4 at hB5 ⊢
    go_wp2_with fail
    refine (awake_any _).mono ?_
    rintro en w5 ⟨rfl, hB6'⟩
    have hB6 := hB5.trans (hB6'.mono hB5.size)
    clear hB5 hB6'
    by_cases hnm : (m : Int) < n
    · go_wp2_with fail
      refine bodyPost_ret (results_tmp rfl _ _ _) rfl ⟨rfl, hB6⟩
    · have HL := hide (hg1 (by omega))
      clear hg1
      go_wp2_with fail
      refine (putNum_any none [] 0 n _ (RdB.nil _ _ _) (by decide) hn).mono ?_
      rw [List.nil_append]
      rintro en w6 ⟨G6, g6, rfl, _, _, hB7'⟩
      have hB7 := hB6.trans (hB7'.mono hB6.size)
      clear hB6 hB7'
      go_wp2_with fail
      refine (putNum_any none [] 0 m _ (RdB.nil _ _ _) (by decide) hm).mono ?_
      rw [List.nil_append]
      rintro en w7 ⟨G7, g7, rfl, _, _, hB8⟩
      have hlen : (((groupsL n).length : Nat) : Int) ≤ ((groupsL m).length : Nat) := by have := HL.out; show (((groupsF 9 n).length : Nat) : Int) ≤ ((groupsF 9 m).length : Nat); omega
      go_wp2_with fail
      refine bodyPost_ret (results_tmp rfl _ _ _) rfl ⟨rfl, hB7.trans (hB8.mono hB7.size)⟩
end Go.Proofs.Ythmiffjhchhljab
