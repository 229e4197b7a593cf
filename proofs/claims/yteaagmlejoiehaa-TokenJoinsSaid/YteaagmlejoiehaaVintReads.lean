/-
  vint's reader: half; the closures of Text and Sum.
-/
import Derived.Test.YteaagmlejoiehaaVintDo
import Derived.Laws.BitsLemmas
namespace Go.Proofs.Yteaagmlejoiehaa
open Go.RowKit
set_option maxRecDepth 100000

/-- The number of the first k bytes, the greatest first. -/
def halfF (l : List UInt8) : Nat → Nat
  | 0 => 0
  | k + 1 => halfF l k * 256 + (l.getD k 0).toNat
def halfN (l : List UInt8) : Nat := halfF l 8
theorem halfF_lt (l : List UInt8) : ∀ k, halfF l k < 256 ^ k
  | 0 => by show 0 < 1; decide
  | k + 1 => by
    have h := halfF_lt l k
    have hx := (l.getD k 0).toNat_lt
    rw [Nat.pow_succ]
    show halfF l k * 256 + (l.getD k 0).toNat < _
    omega
theorem or_byte (a x : Nat) (ha : a < 72057594037927936) (hx : x < 256) :
    bits BinOp.or IntKind.u64 (IntKind.u64.wrap ((a : Int) * 2 ^ 8)) (x : Int) = ((a * 256 + x : Nat) : Int) := by
  have hw : IntKind.u64.wrap ((a : Int) * 2 ^ 8) = ((a * 256 : Nat) : Int) := by
    rw [IntKind.wrap_u64, show (2 : Int) ^ 8 = 256 by decide]; omega
  rw [hw]
  have h := bits_join .u64 64 (by decide) wraps_u64 8 ((a * 256 : Nat) : Int) (x : Int) (by omega) (by rw [show (2 : Int) ^ 8 = 256 by decide]; omega) (by rw [show (2 : Int) ^ 64 = 18446744073709551616 by decide]; omega) (by omega) (by rw [show (2 : Int) ^ 8 = 256 by decide]; omega) (by rw [show (2 : Int) ^ 64 = 18446744073709551616 by decide]; omega)
  rw [h]; simp

set_option maxHeartbeats 4000000 in
theorem readHalf_any (A : Option Addr) (l : List UInt8) (n c : Nat) (B : Nat) (w : World) (hR : RdB w B A l) (hl : 8 ≤ l.length) (hn : n = l.length) (hm : l.length ≤ 1000000) :
    Calls Try.prog 117 #[.slice A n c] w fun e w' => e = .returned (.int .u64 ((halfN l : Nat) : Int)) ∧ w' = w := by
  subst hn
  have hli : (l.length : Int) ≤ 1000000 := by omega
  have hl8 : (8 : Int) ≤ l.length := by omega
  go_enter Try.func117, Try.ntmps117
  go_wp2_with fail
  go_loopw [3, 4, 5] (fun s u i wr => ∃ k : Nat, k ≤ 8 ∧ i = .int .i64 k ∧ s = .int .u64 ((halfF l k : Nat) : Int) ∧ wr = w) (fun _ _ i _ => 8 - (intOf i).toNat)
  case atStart => exact ⟨0, by decide, rfl, rfl, rfl⟩
  case round =>
    obtain ⟨k, hk, rfl, rfl, rfl⟩ := hrel
    by_cases hlt : (k : Int) < 8
    · have hlt' : k < l.length := by omega
      have hx := List.getElem?_eq_getElem hlt'
      obtain ⟨ad, rfl, _, hc⟩ := hR k _ hx
      have hF := halfF_lt l k
      have hp : 256 ^ k ≤ 256 ^ 7 := Nat.pow_le_pow_right (by decide) (by omega)
      have HS := hide (show halfF l (k + 1) = halfF l k * 256 + (l[k]).toNat by
        show halfF l k * 256 + (l.getD k 0).toNat = _
        rw [List.getD_eq_getElem?_getD, hx]; rfl)
      generalize l[k] = x at hc HS
      have hcv : wr.cell? (ad.add k) = some (.int .u8 x.toNat) := hc
      have hx256 := x.toNat_lt
      have HV := hide (or_byte (halfF l k) x.toNat (by omega) hx256)
      have hkl : (k : Int) < l.length := by omega
      clear hc hF hp
      go_wp2_with fail
      go_roundw
      case rel => exact ⟨k + 1, by omega, rfl, by rw [HS.out, ← HV.out]; rfl, trivial⟩
      case measure => simp [intOf]; omega
    · obtain rfl : k = 8 := by omega
      go_wp2_with fail
      refine bodyPost_ret (results_tmp rfl _ _ _) rfl ⟨rfl, rfl⟩

theorem readN_le (l : List UInt8) (e m : Nat) : (readN l e m).1 ≤ m := by
  unfold readN
  split
  · exact Nat.zero_le _
  · split
    · exact Nat.zero_le _
    · split
      · exact Nat.zero_le _
      · show (numL l).1 ≤ m; omega
set_option maxHeartbeats 1000000 in
theorem readInt_any (b e : Nat) (most : Int) (l : List UInt8) (w : World) (h : IsR w b l e) (hl : l.length ≤ 1000000) (hm : most ≤ 9223372036854775807) :
    Calls Try.prog 84 #[.pointer (some ⟨b, 0, none⟩), .int .i64 most] w fun en w' =>
      en = .returned (.int .i64 ((readN l e most.toNat).1 : Nat)) ∧ IsR w' b (readN l e most.toNat).2.1 (readN l e most.toNat).2.2 ∧ w.grownBy w' (some b) ∧ Below b w w' := by
  have hN := readNum_any b most.toNat e l w h hl
  have hle := readN_le l e most.toNat
  generalize readN l e most.toNat = r at hN hle ⊢
  have h1 : ((most.toNat : Nat) : Int) = max most 0 := by omega
  rw [h1] at hN
  have hr : (r.1 : Int) ≤ 9223372036854775807 := by omega
  clear h1 hle
  go_enter Try.func84, Try.ntmps84
  go_wp2_with fail
  refine hN.mono ?_
  rintro en w1 ⟨rfl, h2, h3, h4⟩
  go_wp2_with fail
  refine bodyPost_ret (results_tmp rfl _ _ _) rfl ⟨rfl, h2, h3, h4⟩

theorem RdB.take {w : World} {B : Nat} {A : Option Addr} {l : List UInt8} (h : RdB w B A l) (n : Nat) : RdB w B A (l.take n) := fun k x hx => by
  rw [List.getElem?_take] at hx
  split at hx
  · exact h k x hx
  · cases hx
set_option maxHeartbeats 1000000 in
theorem text1_short (A : Option Addr) (l : List UInt8) (c n : Nat) (q : Value) (bn : Nat) (w : World) (hm : w.cell? ⟨bn, 0, none⟩ = some (.int .i64 n)) (hn : l.length < n) :
    Calls Try.prog 108 #[.slice A l.length c, .pointer (some ⟨bn, 0, none⟩), q] w fun en w' => en = .returned (.tuple #[.int .i64 ((0 : Nat) : Int), .int .i64 ((4 : Nat) : Int)]) ∧ w' = w := by
  have hn2 : (l.length : Int) < n := by omega
  go_enter Try.func108, Try.ntmps108
  go_wp2_with fail
  refine bodyPost_ret (results_tmp2 rfl _ _ _) rfl ⟨rfl, rfl⟩
set_option maxHeartbeats 1000000 in
theorem text1_ok (A : Option Addr) (l : List UInt8) (c n bn bo : Nat) (w : World) (hR : RdB w w.heap.size A l) (hc : l.length ≤ c) (hm : w.heap[bn]? = some (.cells #[.int .i64 n] 3 (0, 0))) (ho : w.heap[bo]? = some (.cells #[.string ⟨#[]⟩] 9 (0, 0))) (hne : bn ≠ bo) (hn : n ≤ l.length) :
    Calls Try.prog 108 #[.slice A l.length c, .pointer (some ⟨bn, 0, none⟩), .pointer (some ⟨bo, 0, none⟩)] w fun en w' => en = .returned (.tuple #[.int .i64 (n : Nat), .int .i64 ((0 : Nat) : Int)]) ∧ w' = w.setCell ⟨bo, 0, none⟩ (.string (ofL (l.take n))) := by
  have hn2 : (n : Int) ≤ l.length := by omega
  have hn3 : (n : Int) ≤ c := by omega
  have q0 : w.cell? ⟨bn, 0, none⟩ = some (.int .i64 n) := cell_of_row _ _ _ _ _ _ hm
  have q1 : w.cell? ⟨bo, 0, none⟩ = some (.string ⟨#[]⟩) := cell_of_row _ _ _ _ _ _ ho
  have q2 : w.frozen? ⟨bo, 0, none⟩ = false := frozen_of_row _ _ _ _ _ ho
  have q3 : (w.setCell ⟨bo, 0, none⟩ (.string (ofL (l.take n)))).cell? ⟨bn, 0, none⟩ = some (.int .i64 n) := cell_of_row _ _ _ _ _ _ ((Below.heap_setCell _ _ _ _ hne).trans hm)
  have hcv := conv_any (hR.take n) c
  rw [List.length_take, Nat.min_eq_left hn] at hcv
  clear hm ho
  go_enter Try.func108, Try.ntmps108
  go_wp2_with fail
  refine bodyPost_ret (results_tmp2 rfl _ _ _) rfl ⟨rfl, rfl⟩
end Go.Proofs.Yteaagmlejoiehaa
