/-
  Texts that belong together: MixOf, MixRef.
-/
import Derived.Test.YtobgbheodlpclaaMixWrite
import Derived.Test.YtobgbheodlpclaaAutoMixOne
/-
  mix.Of, mix.Words.
-/
namespace Go.Proofs.Ytobgbheodlpclaa
open Go.RowKit
set_option maxRecDepth 100000

set_option maxHeartbeats 2000000 in
theorem of_any (A : Option Addr) (l : List UInt8) (c : Nat) (w : World) (hR : RdB w w.heap.size A l) (hc : l.length ≤ c) (hl : l.length ≤ 1000000) :
    Calls Try.prog 70 #[.slice A l.length c] w fun e w' => e = .returned (stV (sumL l)) ∧ Below w.heap.size w w' := by
  obtain ⟨r0, r1, hB⟩ := two_rows w #[.int .u64 0, .int .u64 0] (hashRow (0, 0) (List.replicate 8 0) 0) 28 155
  have hS : ∀ W, IsH W (w.heap.size + 1) l → Calls Try.prog 106 #[.pointer (some ⟨w.heap.size + 1, 0, none⟩)] W fun e w' => e = .returned (stV (sumL l)) ∧ Below W.heap.size W w' := fun W h => hashSum_any _ l W h hl
  have HS := hide hS
  clear hS
  show Calls _ _ _ _ fun e w' => e = .returned (.agg #[.int .u64 ((sumL l).1 : Nat), .int .u64 ((sumL l).2 : Nat)]) ∧ _
  rw [show stV (sumL l) = .agg #[.int .u64 ((sumL l).1 : Nat), .int .u64 ((sumL l).2 : Nat)] from rfl] at HS
  generalize sumL l = q at HS ⊢
  have hI : IsH ((w.alloc (.cells #[.int .u64 0, .int .u64 0] 28)).alloc (.cells (hashRow (0, 0) (List.replicate 8 0) 0) 155)) (w.heap.size + 1) [] := ⟨(0, 0), ⟨by decide, by decide⟩, fun h => absurd rfl h, r1⟩
  have hW := write_any (w.heap.size + 1) [] A l c _ hI ((hR.below hB (Nat.le_refl _)).mono (Nat.le_succ _)) hc (by simpa using hl)
  have HW := hide hW
  clear hW hI r1
  go_enter Try.func70, Try.ntmps70
  go_wp2_with fail
  refine HW.out.mono ?_
  clear HW
  rintro e w2 ⟨rfl, hI2, hG2, hB2⟩
  have s1 := (hG2.block w.heap.size (by simp only [World.size_alloc]; omega) (by simp)).trans r0
  have hB3 := hB.trans (hB2.mono (by simp))
  clear hG2 hB2 hB r0
  go_wp2_with fail
  refine (HS.out w2 hI2.isH).mono ?_
  rintro e w3 ⟨rfl, hB4⟩
  have hB7 := hB3.trans (hB4.mono hB3.size)
  have s3 := (hB4.block w.heap.size (Array.getElem?_eq_some_iff.1 s1).1).trans s1
  clear hB3 hB4 s1
  have d0 : w3.cell? ⟨w.heap.size, 0, none⟩ = some (.int .u64 0) := cell_of_row _ _ _ _ _ _ s3
  have d1 : w3.cell? ⟨w.heap.size, 1, none⟩ = some (.int .u64 0) := cell_of_row _ _ _ _ _ _ s3
  have z0 : w3.frozen? ⟨w.heap.size, 0, none⟩ = false := frozen_of_row _ _ _ _ _ s3
  have z1 : w3.frozen? ⟨w.heap.size, 1, none⟩ = false := frozen_of_row _ _ _ _ _ s3
  have HX := hide (set_two w w3 w.heap.size _ _ (.int .u64 (q.1 : Nat)) (.int .u64 (q.2 : Nat)) _ s3 (Nat.le_refl _) hB7)
  clear s3 hB7
  go_wp2_with fail
  obtain ⟨y0, y1, hBf⟩ := HX.out
  refine bodyPost_ret (v := .agg #[.int .u64 (q.1 : Nat), .int .u64 (q.2 : Nat)]) (by simp [results, Try.results70, go_sem, y0, y1]) rfl ⟨rfl, hBf⟩
end Go.Proofs.Ytobgbheodlpclaa
/-
  The reference's Round and Start.
-/
namespace Go.Proofs.Ytobgbheodlpclaa
open Go.RowKit
set_option maxRecDepth 100000

set_option maxHeartbeats 1000000 in
theorem turn_any (x n : Nat) (w : World) (hx : x < 18446744073709551616) (hn : n ≤ 64) : Calls Try.prog 122 #[.int .u64 x, .int .i64 n] w fun e w' => e = .returned (.int .u64 (rotL x n : Nat)) ∧ w' = w := by
  have hni : (n : Int) ≤ 64 := by omega
  go_enter Try.func122, Try.ntmps122
  go_wp2_with fail
  go_loopw [0, 5] (fun v i wr => ∃ (k q : Nat), k ≤ n ∧ i = .int .i64 k ∧ Hid (q = rotL x k) ∧ v = .int .u64 q ∧ wr = w) (fun _ i _ => n - (intOf i).toNat)
  case atStart => exact ⟨0, x, Nat.zero_le _, rfl, hide (rotL_zero x hx).symm, rfl, rfl⟩
  case round =>
    obtain ⟨k, q, hk, rfl, HQ, rfl, rfl⟩ := hrel
    have hq : q < 18446744073709551616 := by rw [HQ.out]; exact rotL_lt x k (by omega) hx
    by_cases hlt : (k : Int) < n
    · have hs := hide (rotL_step x k (by omega) hx)
      rw [← HQ.out] at hs
      have hm : IntKind.u64.wrap ((q : Int) * 2) = ((q * 2 % 18446744073709551616 : Nat) : Int) := wrap_mod (q * 2)
      have ha : IntKind.u64.wrap (((q * 2 % 18446744073709551616 : Nat) : Int) + (q : Int) / 9223372036854775808) = ((q * 2 % 18446744073709551616 + q / 9223372036854775808 : Nat) : Int) := by
        rw [show ((q * 2 % 18446744073709551616 : Nat) : Int) + (q : Int) / 9223372036854775808 = ((q * 2 % 18446744073709551616 + q / 9223372036854775808 : Nat) : Int) by simp, wrap_mod]
        omega
      generalize q * 2 % 18446744073709551616 + q / 9223372036854775808 = r at hs ha
      generalize q * 2 % 18446744073709551616 = m at hm ha
      have hq0 : (q : Int) ≤ 18446744073709551615 := by omega
      clear hq
      go_wp2_with fail
      go_roundw
      case rel => exact ⟨k + 1, r, by omega, rfl, hide hs.out.symm, rfl, trivial⟩
      case measure => simp [intOf]; omega
    · obtain rfl : k = n := by omega
      go_wp2_with fail
      refine bodyPost_ret (results_tmp rfl _ _ _) rfl ⟨by rw [← HQ.out]; rfl, rfl⟩
theorem turn29 (x : Nat) (w : World) (hx : x < 18446744073709551616) : Calls Try.prog 122 #[.int .u64 x, .int .i64 29] w fun e w' => e = .returned (.int .u64 (rotL x 29 : Nat)) ∧ w' = w := turn_any x 29 w hx (by decide)
theorem turn41 (x : Nat) (w : World) (hx : x < 18446744073709551616) : Calls Try.prog 122 #[.int .u64 x, .int .i64 41] w fun e w' => e = .returned (.int .u64 (rotL x 41 : Nat)) ∧ w' = w := turn_any x 41 w hx (by decide)

set_option maxHeartbeats 2000000 in
theorem refRound_any (p : Nat × Nat) (v : Nat) (w : World) (hp : Two p) (hv : v < 18446744073709551616) :
    Calls Try.prog 102 #[stV p, .int .u64 v] w fun e w' => e = .returned (stV (roundN p v)) ∧ Below w.heap.size w w' := by
  obtain ⟨hi, lo⟩ := p
  obtain ⟨h1, h2⟩ := hp
  have HR := hide (show roundN (hi, lo) v = (hiR hi lo v, loR hi lo v) from rfl)
  rw [HR.out]
  simp only at h1 h2
  unfold loR
  have hx := u64_xor_nat hi v h1 hv
  have hxl := xor_lt hi v h1 hv
  have hm : IntKind.u64.wrap (((hi ^^^ v : Nat) : Int) * 11400714819323198485) = (((hi ^^^ v) * 0x9e3779b97f4a7c15 % 18446744073709551616 : Nat) : Int) := wrap_mod ((hi ^^^ v) * 0x9e3779b97f4a7c15)
  have hm1 : (hi ^^^ v) * 0x9e3779b97f4a7c15 % 18446744073709551616 < 18446744073709551616 := Nat.mod_lt _ (by decide)
  have hh : IntKind.u64.wrap (((rotL ((hi ^^^ v) * 0x9e3779b97f4a7c15 % 18446744073709551616) 29 : Nat) : Int) + (lo : Int)) = ((hiR hi lo v : Nat) : Int) := wrap_mod (rotL ((hi ^^^ v) * 0x9e3779b97f4a7c15 % 18446744073709551616) 29 + lo)
  have hhl : hiR hi lo v < 18446744073709551616 := Nat.mod_lt _ (by decide)
  have ha : IntKind.u64.wrap ((lo : Int) + (v : Int)) = (((lo + v) % 18446744073709551616 : Nat) : Int) := wrap_mod (lo + v)
  have hb : IntKind.u64.wrap ((((lo + v) % 18446744073709551616 : Nat) : Int) * 14029467366897019727) = (((lo + v) % 18446744073709551616 * 0xc2b2ae3d27d4eb4f % 18446744073709551616 : Nat) : Int) := wrap_mod ((lo + v) % 18446744073709551616 * 0xc2b2ae3d27d4eb4f)
  have hbl : (lo + v) % 18446744073709551616 * 0xc2b2ae3d27d4eb4f % 18446744073709551616 < 18446744073709551616 := Nat.mod_lt _ (by decide)
  have hy := u64_xor_nat (rotL ((lo + v) % 18446744073709551616 * 0xc2b2ae3d27d4eb4f % 18446744073709551616) 41) (hiR hi lo v) (rotL_lt _ _ (by decide) hbl) hhl
  generalize hiR hi lo v = H at hh hhl hy ⊢
  generalize (lo + v) % 18446744073709551616 * 0xc2b2ae3d27d4eb4f % 18446744073709551616 = m2 at hb hbl hy ⊢
  generalize (lo + v) % 18446744073709551616 = a2 at ha hb
  generalize (hi ^^^ v) * 0x9e3779b97f4a7c15 % 18446744073709551616 = m1 at hm hm1 hh
  generalize hi ^^^ v = x1 at hx hxl hm
  generalize rotL m2 41 ^^^ H = L at hy ⊢
  obtain ⟨r0, r1, hB⟩ := two_rows w #[.int .u64 (hi : Nat), .int .u64 (lo : Nat)] #[.int .u64 0, .int .u64 0] 28 28
  unfold stV
  go_enter Try.func102, Try.ntmps102
  go_wp2_with fail
  generalize ((w.alloc (.cells #[.int .u64 (hi : Nat), .int .u64 (lo : Nat)] 28)).alloc (.cells #[.int .u64 0, .int .u64 0] 28)) = w2 at r0 r1 hB ⊢
  have c0 : w2.cell? ⟨w.heap.size, 0, none⟩ = some (.int .u64 (hi : Nat)) := cell_of_row _ _ _ _ _ _ r0
  have c1 : w2.cell? ⟨w.heap.size, 1, none⟩ = some (.int .u64 (lo : Nat)) := cell_of_row _ _ _ _ _ _ r0
  clear h1 h2 hv hxl hhl r0
  go_quiet ((go_at_call 122; exact Calls.quiet_of_same (turn29 _ _ hm1)))
  have r2 : (w2.drewN nq).heap[w.heap.size + 1]? = some (.cells #[.int .u64 0, .int .u64 0] 28 (0, 0)) := r1
  have e0 : (w2.drewN nq).cell? ⟨w.heap.size, 0, none⟩ = some (.int .u64 (hi : Nat)) := c0
  have e1 : (w2.drewN nq).cell? ⟨w.heap.size, 1, none⟩ = some (.int .u64 (lo : Nat)) := c1
  have hB2 := below_drewN hB nq
  clear c0 c1 r1 hB
  generalize w2.drewN nq = w3 at r2 hB2 e0 e1 ⊢
  have d0 : w3.cell? ⟨w.heap.size + 1, 0, none⟩ = some (.int .u64 0) := cell_of_row _ _ _ _ _ _ r2
  have d1 : w3.cell? ⟨w.heap.size + 1, 1, none⟩ = some (.int .u64 0) := cell_of_row _ _ _ _ _ _ r2
  have z0 : w3.frozen? ⟨w.heap.size + 1, 0, none⟩ = false := frozen_of_row _ _ _ _ _ r2
  have z1 : w3.frozen? ⟨w.heap.size + 1, 1, none⟩ = false := frozen_of_row _ _ _ _ _ r2
  have HX := hide (set_two w w3 (w.heap.size + 1) _ _ (.int .u64 (H : Nat)) (.int .u64 (L : Nat)) _ r2 (by omega) hB2)
  clear r2 hB2
  go_wp2_with fail
  refine (turn41 _ _ hbl).mono ?_
  rintro e w4 ⟨rfl, rfl⟩
  go_wp2_with fail
  obtain ⟨y0, y1, hBf⟩ := HX.out
  refine bodyPost_ret (v := .agg #[.int .u64 (H : Nat), .int .u64 (L : Nat)]) (by simp [results, Try.results102, go_sem, y0, y1]) rfl ⟨rfl, hBf⟩

set_option maxHeartbeats 1000000 in
theorem refStart_any (w : World) : Calls Try.prog 101 #[] w fun e w' => e = .returned (stV startN) ∧ Below w.heap.size w w' := by
  go_enter Try.func101, Try.ntmps101
  go_wp2_with fail
  refine bodyPost_ret (v := .agg #[.int .u64 2611923443488327891, .int .u64 1376283091369227076]) (by simp [results, Try.results101, go_sem]) rfl ⟨rfl, (Below.refl _ w).alloc (Nat.le_refl _) _⟩
end Go.Proofs.Ytobgbheodlpclaa
