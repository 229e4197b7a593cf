/-
  The reference's hex and Text.
-/
import Derived.Test.YtffhkdbdcpobbabMixText
import Derived.Deep.RegionHeld3
import Derived.Lib.SliceRun
namespace Go.Proofs.Ytffhkdbdcpobbab
open Go.RowKit
set_option maxRecDepth 100000

theorem hofL_app (a b : List UInt8) : ofL (a ++ b) = ofL a ++ ofL b := by
  apply toL_inj
  simp [toL, ofL]
theorem hofL_size (l : List UInt8) : (ofL l).size = l.length := by simp [ofL, ByteArray.size]
theorem digit_cut (d : Nat) (h : d < 16) : (⟨#[48, 49, 50, 51, 52, 53, 54, 55, 56, 57, 97, 98, 99, 100, 101, 102]⟩ : ByteArray).extract d (d + 1) = ofL [hexD d] := by
  have hc : ∀ k : Fin 16, toL (digitsB.extract k.val (k.val + 1)) = [hexD k.val] := by decide +kernel
  exact toL_inj (hc ⟨d, h⟩)

set_option maxHeartbeats 2000000 in
theorem hex_any (x : Nat) (w : World) (hx : x < 18446744073709551616) :
    Calls Try.prog 15 #[.int .u64 x] w fun e w' => e = .returned (.string (ofL (tailN 16 x))) ∧ w' = w := by
  go_enter Try.func15, Try.ntmps15
  go_wp2_with fail
  go_loopw [0, 4, 5, 6] (fun v o i d wr => ∃ k : Nat, k ≤ 16 ∧ i = .int .i64 k ∧ v = .int .u64 (x / 16 ^ k : Nat) ∧ o = .string (ofL (tailN k x)) ∧ wr = w) (fun _ _ i _ _ => 16 - (intOf i).toNat)
  case atStart => exact ⟨0, by decide, rfl, by simp, rfl, rfl⟩
  case round =>
    obtain ⟨k, hk, rfl, rfl, rfl, rfl⟩ := hrel
    by_cases hlt : k < 16
    · have hq : x / 16 ^ k < 18446744073709551616 := Nat.lt_of_le_of_lt (Nat.div_le_self _ _) hx
      have HD := hide (show x / 16 ^ (k + 1) = x / 16 ^ k / 16 by rw [Nat.pow_succ, Nat.div_div_eq_div_mul])
      have HT := hide (show tailN (k + 1) x = hexD (x / 16 ^ k % 16) :: tailN k x from rfl)
      have hcut := digit_cut (x / 16 ^ k % 16) (Nat.mod_lt _ (by decide))
      have hsz : ¬ 9223372036854775807 < (ofL [hexD (x / 16 ^ k % 16)]).size + (ofL (tailN k x)).size := by
        rw [hofL_size, hofL_size, tailN_len]
        simp only [List.length_cons, List.length_nil]
        omega
      generalize x / 16 ^ k = q at hq HD HT hcut hsz ⊢
      have q0 : (0 : Int) ≤ (q : Int) % 16 := by omega
      have q1 : (q : Int) % 16 < 16 := by omega
      have q2 : ((q : Int) % 16).toNat = q % 16 := by omega
      have q3 : ((q : Int) % 16 + 1).toNat = q % 16 + 1 := by omega
      go_wp2_with fail
      go_roundw
      case rel => exact ⟨k + 1, hlt, rfl, by rw [HD.out]; rfl, by rw [HT.out, ← hofL_app]; rfl, trivial⟩
      case measure => simp [intOf]; omega
    · obtain rfl : k = 16 := by omega
      go_wp2_with fail
      refine bodyPost_ret (results_tmp rfl _ _ _) rfl ⟨rfl, rfl⟩

set_option maxHeartbeats 2000000 in
theorem refText_any (p : Nat × Nat) (w : World) (hp : Two p) :
    Calls Try.prog 10 #[stV p] w fun e w' => e = .returned (.string (ofL (textL p))) ∧ Below w.heap.size w w' := by
  have h1 := fun W => hex_any p.1 W hp.1
  have h2 := fun W => hex_any p.2 W hp.2
  have HT := hide (show ofL (tailN 16 p.1) ++ ofL (tailN 16 p.2) = ofL (textL p) from (hofL_app _ _).symm)
  have hsz : ¬ 9223372036854775807 < (ofL (tailN 16 p.1)).size + (ofL (tailN 16 p.2)).size := by
    rw [hofL_size, hofL_size, tailN_len, tailN_len]; omega
  rw [show stV p = .agg #[.int .u64 (p.1 : Nat), .int .u64 (p.2 : Nat)] from rfl]
  have hB : Below w.heap.size w (w.alloc (.cells #[.int .u64 (p.1 : Nat), .int .u64 (p.2 : Nat)] 26)) := (Below.refl _ w).alloc (Nat.le_refl _) _
  have r0 := World.alloc_heap_new w (Obj.cells #[.int .u64 (p.1 : Nat), .int .u64 (p.2 : Nat)] 26)
  rw [← HT.out]
  clear HT
  generalize ofL (tailN 16 p.1) = x at h1 hsz ⊢
  generalize ofL (tailN 16 p.2) = y at h2 hsz ⊢
  go_enter Try.func10, Try.ntmps10
  go_wp2_with fail
  generalize (w.alloc (.cells #[.int .u64 (p.1 : Nat), .int .u64 (p.2 : Nat)] 26)) = w2 at hB r0 ⊢
  have c0 : w2.cell? ⟨w.heap.size, 0, none⟩ = some (.int .u64 (p.1 : Nat)) := cell_of_row _ _ _ _ _ _ r0
  have c1 : w2.cell? ⟨w.heap.size, 1, none⟩ = some (.int .u64 (p.2 : Nat)) := cell_of_row _ _ _ _ _ _ r0
  go_quiet (first
    | (go_at_call_of 15 (Value.int .u64 (p.1 : Nat)); exact Calls.quiet_of_same (h1 _))
    | (go_at_call_of 15 (Value.int .u64 (p.2 : Nat)); exact Calls.quiet_of_same (h2 _)))
  go_wp2_with fail
  exact bodyPost_ret (results_tmp rfl _ _ _) rfl ⟨rfl, below_drewN hB nq⟩
end Go.Proofs.Ytffhkdbdcpobbab
