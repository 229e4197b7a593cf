/-
  vint's reader: half; the closures of Text and Sum.
-/
import Derived.Test.YtlbhgebjmekclaaDoorVintDo
import Derived.Laws.BitsLemmas
namespace Go.Proofs.YtlbhgebjmekclaaDoor
open Go.RowKit
set_option maxRecDepth 100000

theorem readN_le (l : List UInt8) (e m : Nat) : (readN l e m).1 ≤ m := by
  unfold readN
  split
  · exact Nat.zero_le _
  · split
    · exact Nat.zero_le _
    · split
      · exact Nat.zero_le _
      · show (numL l).1 ≤ m; omega
set_option maxHeartbeats 1000000 in
theorem readInt_any (b e : Nat) (most : Int) (l : List UInt8) (w : World) (h : IsR w b l e) (hl : l.length ≤ 1000000) (hm : most ≤ 9223372036854775807) :
    Calls Tryd.prog 43 #[.pointer (some ⟨b, 0, none⟩), .int .i64 most] w fun en w' =>
      en = .returned (.int .i64 ((readN l e most.toNat).1 : Nat)) ∧ IsR w' b (readN l e most.toNat).2.1 (readN l e most.toNat).2.2 ∧ w.grownBy w' (some b) ∧ Below b w w' := by
  have hN := readNum_any b most.toNat e l w h hl
  have hle := readN_le l e most.toNat
  generalize readN l e most.toNat = r at hN hle ⊢
  have h1 : ((most.toNat : Nat) : Int) = max most 0 := by omega
  rw [h1] at hN
  have hr : (r.1 : Int) ≤ 9223372036854775807 := by omega
  clear h1 hle
  go_enter Tryd.func43, Tryd.ntmps43
  go_wp2_with fail
  refine hN.mono ?_
  rintro en w1 ⟨rfl, h2, h3, h4⟩
  go_wp2_with fail
  refine bodyPost_ret (results_tmp rfl _ _ _) rfl ⟨rfl, h2, h3, h4⟩

theorem RdB.take {w : World} {B : Nat} {A : Option Addr} {l : List UInt8} (h : RdB w B A l) (n : Nat) : RdB w B A (l.take n) := fun k x hx => by
  rw [List.getElem?_take] at hx
  split at hx
  · exact h k x hx
  · cases hx
set_option maxHeartbeats 1000000 in
theorem text1_short (A : Option Addr) (l : List UInt8) (c n : Nat) (q : Value) (bn : Nat) (w : World) (hm : w.cell? ⟨bn, 0, none⟩ = some (.int .i64 n)) (hn : l.length < n) :
    Calls Tryd.prog 55 #[.slice A l.length c, .pointer (some ⟨bn, 0, none⟩), q] w fun en w' => en = .returned (.tuple #[.int .i64 ((0 : Nat) : Int), .int .i64 ((4 : Nat) : Int)]) ∧ w' = w := by
  have hn2 : (l.length : Int) < n := by omega
  go_enter Tryd.func55, Tryd.ntmps55
  go_wp2_with fail
  refine bodyPost_ret (results_tmp2 rfl _ _ _) rfl ⟨rfl, rfl⟩
set_option maxHeartbeats 1000000 in
theorem text1_ok (A : Option Addr) (l : List UInt8) (c n bn bo : Nat) (w : World) (hR : RdB w w.heap.size A l) (hc : l.length ≤ c) (hm : w.heap[bn]? = some (.cells #[.int .i64 n] 3 (0, 0))) (ho : w.heap[bo]? = some (.cells #[.string ⟨#[]⟩] 9 (0, 0))) (hne : bn ≠ bo) (hn : n ≤ l.length) :
    Calls Tryd.prog 55 #[.slice A l.length c, .pointer (some ⟨bn, 0, none⟩), .pointer (some ⟨bo, 0, none⟩)] w fun en w' => en = .returned (.tuple #[.int .i64 (n : Nat), .int .i64 ((0 : Nat) : Int)]) ∧ w' = w.setCell ⟨bo, 0, none⟩ (.string (ofL (l.take n))) := by
  have hn2 : (n : Int) ≤ l.length := by omega
  have hn3 : (n : Int) ≤ c := by omega
  have q0 : w.cell? ⟨bn, 0, none⟩ = some (.int .i64 n) := cell_of_row _ _ _ _ _ _ hm
  have q1 : w.cell? ⟨bo, 0, none⟩ = some (.string ⟨#[]⟩) := cell_of_row _ _ _ _ _ _ ho
  have q2 : w.frozen? ⟨bo, 0, none⟩ = false := frozen_of_row _ _ _ _ _ ho
  have q3 : (w.setCell ⟨bo, 0, none⟩ (.string (ofL (l.take n)))).cell? ⟨bn, 0, none⟩ = some (.int .i64 n) := cell_of_row _ _ _ _ _ _ ((Below.heap_setCell _ _ _ _ hne).trans hm)
  have hcv := conv_any (hR.take n) c
  rw [List.length_take, Nat.min_eq_left hn] at hcv
  clear hm ho
  go_enter Tryd.func55, Tryd.ntmps55
  go_wp2_with fail
  refine bodyPost_ret (results_tmp2 rfl _ _ _) rfl ⟨rfl, rfl⟩
end Go.Proofs.YtlbhgebjmekclaaDoor
